/- Contracts of of and New: a disk of noughts. -/
import Derived.Test.YtmojieomdbfjcaaNew
namespace Go.Proofs.Ytmojieomdbfjcaa
open Go.ChangeShapes Go.WideShapes Go.ChangeAt Go.RowKit

/-- a disk in memory from block B on -/
structure DkAt (B : Nat) (w : World) (g gn gl L cn cl : Nat) (vw : Value) (ns ls : List Value) (W : List (Nat × ByteArray)) (st : Int) (ar : Bool) (le : Int) (off : Bool) : Prop where
  head : Head w g (.slice (some ⟨gn, 0, none⟩) L cn) (.slice (some ⟨gl, 0, none⟩) L cl) vw st ar le off
  now : w.ownsRow 0 9 1 (.slice (some ⟨gn, 0, none⟩) L cn) L ns
  rows : w.ownsRow 0 9 1 (.slice (some ⟨gl, 0, none⟩) L cl) L ls
  own : w.ownsRow 0 58 2 vw W.length (wcells W)
  ge : B ≤ g ∧ B ≤ gn ∧ B ≤ gl ∧ ∀ k, vw.ownBlock = some k → B ≤ k
  ne : gn ≠ g ∧ gl ≠ g ∧ gn ≠ gl ∧ vw.ownBlock ≠ some g ∧ vw.ownBlock ≠ some gn ∧ vw.ownBlock ≠ some gl
theorem DkAt.below {B : Nat} {w w' : World} {g gn gl L cn cl : Nat} {vw : Value} {ns ls : List Value} {W : List (Nat × ByteArray)} {st : Int} {ar : Bool} {le : Int} {off : Bool} (h : DkAt B w g gn gl L cn cl vw ns ls W st ar le off) (hb : Below w.heap.size w w') : DkAt B w' g gn gl L cn cl vw ns ls W st ar le off := by
  have ho : Only (fun _ => False) w w' := Only.of_below hb
  exact ⟨head_only h.head ho fun x => x, own_only h.now ho fun _ _ x => x, own_only h.rows ho fun _ _ x => x, own_only h.own ho fun _ _ x => x, h.ge, h.ne⟩

set_option maxRecDepth 20000 in
theorem of_any (b c N : Nat) (t : ByteArray) (hN : 1 ≤ N) (hN2 : N ≤ 1000) (w : World) (hx : Hid (∀ j, j < N → w.cell? ⟨b, j, none⟩ = some (.string t))) :
    Calls Try.prog 20 #[.slice (some ⟨b, 0, none⟩) N c] w fun e w' => ∃ g gn gl cn cl, e = .returned (.pointer (some ⟨g, 0, none⟩)) ∧
      DkAt w.heap.size w' g gn gl N cn cl (.slice none 0 0) (List.replicate N (.string t)) (List.replicate N (.string t)) [] 0 false 0 false ∧ Below w.heap.size w w' := by
  have hz : (List.replicate N t).length = N := List.length_replicate
  have HCl := Lib.hid (fun (W : World) (hb : Below w.heap.size w W) => Try.slices_Clone_string b 0 N c (List.replicate N t) W (by rw [hz]; exact Nat.le_refl _) (by omega) (fun j hj => by
    rw [hz] at hj
    rw [Nat.zero_add, show (List.replicate N t).getD j ByteArray.empty = t by simp [List.getD, hj]]
    have hc := hx.out j hj
    rw [show W.cell? ⟨b, j, none⟩ = w.cell? ⟨b, j, none⟩ by unfold World.cell?; rw [hb.block b (World.block_lt_of_cell? w _ hc)]]
    exact hc))
  clear hz
  go_enter Try.func20, Try.ntmps20
  go_wp2_with fail
  refine (HCl.out w (Below.refl _ _)).mono ?_
  rintro e w1 ⟨v1, rfl, hown1, hnil1, hb1⟩
  have h1 := Lib.hid (And.intro hown1 (And.intro hnil1 hb1))
  clear hown1 hnil1 hb1
  go_wp2_with fail
  refine (HCl.out w1 h1.out.2.2).mono ?_
  rintro e w2 ⟨v2, rfl, hown2, hnil2, hb2⟩
  have h2 := Lib.hid (And.intro hown2 (And.intro hnil2 hb2))
  clear hown2 hnil2 hb2
  obtain ⟨gn, cn, rfl⟩ := own_shape h1.out.1 (by omega)
  obtain ⟨gl, cl, rfl⟩ := own_shape h2.out.1 (by omega)
  go_wp2_with fail
  go_ret
  have a1 := (h1.out.1.lt gn rfl)
  have a2 := (h2.out.1.lt gl rfl)
  have hb12 := h2.out.2.2
  have ho1 : Only (fun _ => False) w1 w2 := Only.of_below hb12
  have hA : ∀ o, Only (fun _ => False) w2 (w2.alloc o) := fun o => (Only.refl _ w2).alloc o
  have hs1 := hb12.size
  have hs0 := h1.out.2.2.size
  have q1 := own_base h1.out.1 (Nat.zero_le _)
  have q2 := own_base h2.out.1 (Nat.zero_le _)
  rw [List.take_of_length_le (by simp), List.map_replicate] at q1 q2
  have r1 := fun o => own_only (own_only q1 ho1 fun _ _ x => x) (hA o) fun _ _ x => x
  have r2 := fun o => own_only q2 (hA o) fun _ _ x => x
  refine ⟨w2.heap.size, gn, gl, cn, cl, rfl, ⟨?_, r1 _, r2 _, World.ownsRow_nil _ _ _ _, ⟨by omega, by omega, by omega, fun k hk => by cases hk⟩, ⟨by omega, by omega, by omega, by simp [Value.ownBlock], by simp [Value.ownBlock], by simp [Value.ownBlock]⟩⟩, ?_⟩
  · exact Array.getElem?_push_size
  · exact (h1.out.2.2.trans (hb12.mono hs0)).alloc (by omega) _

def zeroB : ByteArray := ⟨#[0]⟩
def rep (s : ByteArray) (n : Nat) : ByteArray := ⟨(Lib.repeatL s.data.toList n).toArray⟩
def zeros : ByteArray := rep zeroB 512
theorem rep_any (s : ByteArray) (n : Nat) (k : Int) (hk : (n : Int) = k) (h1 : n ≤ 1000000) (h2 : s.size ≤ 1000) (w : World) : Calls Try.prog 19 #[.string s, .int .i64 k] w fun e w' => e = .returned (.string (rep s n)) ∧ Below w.heap.size w w' := by
  subst hk
  have h3 : s.size * n ≤ 1000 * 1000000 := Nat.mul_le_mul h2 h1
  exact Try.strings_Repeat s n w (by omega) (by omega)
theorem rep_zeros (w : World) : Calls Try.prog 19 #[.string ⟨#[0]⟩, .int .i64 512] w fun e w' => e = .returned (.string zeros) ∧ Below w.heap.size w w' :=
  rep_any zeroB 512 512 rfl (by decide) (by decide) w
set_option maxRecDepth 20000 in
theorem new_gen (z : ByteArray) (hz : ∀ w, Calls Try.prog 19 #[.string ⟨#[0]⟩, .int .i64 512] w fun e w' => e = .returned (.string z) ∧ Below w.heap.size w w') (N : Nat) (hN : 1 ≤ N) (hN2 : N ≤ 1000) (w : World) :
    Calls Try.prog 6 #[.int .i64 (N : Int)] w fun e w' => ∃ g gn gl cn cl, e = .returned (.tuple #[.pointer (some ⟨g, 0, none⟩), .int .i64 0]) ∧
      DkAt w.heap.size w' g gn gl N cn cl (.slice none 0 0) (List.replicate N (.string z)) (List.replicate N (.string z)) [] 0 false 0 false ∧ Below w.heap.size w w' := by
  have HR := Lib.hid (hz w)
  clear hz
  have HO := Lib.hid (fun (W : World) (b c : Nat) h => of_any b c N z hN hN2 W h)
  have HP := Lib.hid (fun (W : World) (b c : Nat) h => repeat_any b c N z hN hN2 W h)
  have h1 : ¬ ((N : Int) < 1) := by omega
  have h2 : ¬ (65536 < (N : Int)) := by omega
  go_enter Try.func6, Try.ntmps6
  go_wp2_with fail
  refine HR.out.mono ?_
  rintro e w1 ⟨rfl, hb1⟩
  have hb1' := Lib.hid hb1
  clear hb1
  go_wp2_with fail
  have hal : Below w.heap.size w (w1.alloc (Obj.cells #[Value.string z] 9)) := hb1'.out.alloc hb1'.out.size _
  have hal' := Lib.hid hal
  have hcel : (w1.alloc (Obj.cells #[Value.string z] 9)).cell? ⟨w1.heap.size, 0, none⟩ = some (.string z) := by rw [World.cell?_alloc_mark]; rfl
  refine (HP.out _ _ _ hcel).mono ?_
  rintro e w2 ⟨rfl, hI⟩
  have hI' := Lib.hid hI
  clear hI hal hcel
  go_wp2_with fail
  have hsz : (w1.alloc (Obj.cells #[Value.string z] 9)).heap.size = w1.heap.size + 1 := by simp
  have hrw := hI'.out.row
  rw [hsz] at hrw
  have hcl : Hid (∀ j, j < N → w2.cell? ⟨w1.heap.size + 1, j, none⟩ = some (.string z)) := Lib.hid fun j hj => fill_at w2 (w1.heap.size + 1) N _ _ N _ hrw j hj
  clear hrw hsz
  refine (HO.out w2 (w1.heap.size + 1) N hcl).mono ?_
  rintro e w3 ⟨g, gn, gl, cn, cl, rfl, hD, hb3⟩
  have hF := Lib.hid (And.intro hD hb3)
  clear hD hb3
  go_wp2_with fail
  go_ret2
  have hs := hI'.out.below.size
  have ha := hal'.out.size
  have hb02 : Below w.heap.size w w2 := hal'.out.trans (hI'.out.below.mono ha)
  obtain ⟨hD, hb3⟩ := hF.out
  exact ⟨g, gn, gl, cn, cl, rfl, ⟨hD.head, hD.now, hD.rows, hD.own, ⟨Nat.le_trans hb02.size hD.ge.1, Nat.le_trans hb02.size hD.ge.2.1, Nat.le_trans hb02.size hD.ge.2.2.1, fun k hk => by cases hk⟩, hD.ne⟩, hb02.trans (hb3.mono hb02.size)⟩
theorem new_any (N : Nat) (hN : 1 ≤ N) (hN2 : N ≤ 1000) (w : World) :
    Calls Try.prog 6 #[.int .i64 (N : Int)] w fun e w' => ∃ g gn gl cn cl, e = .returned (.tuple #[.pointer (some ⟨g, 0, none⟩), .int .i64 0]) ∧
      DkAt w.heap.size w' g gn gl N cn cl (.slice none 0 0) (List.replicate N (.string zeros)) (List.replicate N (.string zeros)) [] 0 false 0 false ∧ Below w.heap.size w w' := new_gen zeros rep_zeros N hN hN2 w
end Go.Proofs.Ytmojieomdbfjcaa
