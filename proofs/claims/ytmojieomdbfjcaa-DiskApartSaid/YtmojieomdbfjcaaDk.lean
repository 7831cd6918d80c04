/- A disk's calls, one by one, at a disk as a whole. -/
import Derived.Test.YtmojieomdbfjcaaMade
import Derived.Lib.SmallJoins
namespace Go.Proofs.Ytmojieomdbfjcaa
open Go.ChangeShapes Go.WideShapes Go.ChangeAt Go.RowKit

/-- a sector of a byte, in memory -/
def Sec (w : World) (gb : Nat) (x : Int) : Prop := w.ownsRow 0 5 1 (.slice (some ⟨gb, 0, none⟩) 512 512) 512 (List.replicate 512 (.int .u8 x))
def secS (x : Int) : ByteArray := strOfNums (List.replicate 512 x)
theorem sec_of {w w' : World} {g : Nat} {x : Int} (h : FInv w w' g 5 512 (.int .u8 0) (.int .u8 x) 512) : Sec w' g x := by
  have := own_base h.row (Nat.zero_le _)
  rw [fillTo_all] at this
  exact this
theorem rep_getD (n i : Nat) (x : Int) (hi : i < n) : (List.replicate n x).getD i 0 = x := by
  rw [List.getD_eq_getElem?_getD, List.getElem?_replicate, if_pos hi]
  rfl
theorem row_conv {w : World} {gb n : Nat} {x : Int} (h : w.ownsRow 0 5 1 (.slice (some ⟨gb, 0, none⟩) n n) n (List.replicate n (.int .u8 x))) : (convert 22 9 (.slice (some ⟨gb, 0, none⟩) n n)).run Try.prog w = .ok (.string (strOfNums (List.replicate n x))) w :=
  run_convert_bytes_arg (P := Try.prog) w 22 5 Try.underlying22 Try.underlying5 gb 0 n n (List.replicate n x) List.length_replicate (fun i hi => by
    have hc := World.ownsRow.cellAt h i (by omega)
    rw [Nat.zero_add, hc, List.getElem?_replicate, if_pos hi, rep_getD n i x hi]) 9 Try.underlying9
theorem sec_conv {w : World} {gb : Nat} {x : Int} (h : Sec w gb x) : (convert 22 9 (.slice (some ⟨gb, 0, none⟩) 512 512)).run Try.prog w = .ok (.string (secS x)) w := row_conv h

section
variable {B : Nat} {w : World} {g gn gl L cn cl : Nat} {vw : Value} {ns ls : List Value} {W : List (Nat × ByteArray)} {st : Int} {ar : Bool} {le : Int} {off : Bool}
theorem dk_size (h : DkAt B w g gn gl L cn cl vw ns ls W st ar le off) : B ≤ w.heap.size := Nat.le_trans h.ge.1 (Nat.le_of_lt (head_lt h.head))
theorem wcells_snoc (W : List (Nat × ByteArray)) (n : Nat) (s : ByteArray) : wcells W ++ [Value.int .i64 (n : Int), Value.string s] = wcells (W ++ [(n, s)]) := by simp [wcells]
theorem dk_head {w' : World} {st' : Int} {ar' : Bool} {le' : Int} {off' : Bool} (h : DkAt B w g gn gl L cn cl vw ns ls W st ar le off)
    (hh : Head w' g (.slice (some ⟨gn, 0, none⟩) L cn) (.slice (some ⟨gl, 0, none⟩) L cl) vw st' ar' le' off') (ho : Only (· = g) w w') : DkAt B w' g gn gl L cn cl vw ns ls W st' ar' le' off' ∧ Below B w w' :=
  ⟨⟨hh, own_only h.now ho fun k hk e => by cases hk; exact h.ne.1 e, own_only h.rows ho fun k hk e => by cases hk; exact h.ne.2.1 e, own_only h.own ho fun k hk e => h.ne.2.2.2.1 (by rw [hk, e]), h.ge, h.ne⟩,
    ho.below (fun k e => e ▸ h.ge.1) (dk_size h)⟩

theorem dk_write (le' : Int) (hle : (if ar = true then le - 1 else le) = le') (i : Int) (n : Nat) (hni : (n : Int) = i) (h : DkAt B w g gn gl L cn cl vw ns ls W st ar le false) (hn : n < L) (gb : Nat) (x : Int) (hs : Sec w gb x) (hgb : gb ≠ g) (hm : W.length ≤ 1000000) (h0 : 0 ≤ le) (h1 : le ≤ 9223372036854775807) (h2 : 0 ≤ st) (h3 : st ≤ 1000000000) (hd : ¬ (ar = true ∧ le = 0)) :
    Calls Try.prog 8 #[.pointer (some ⟨g, 0, none⟩), .int .i64 i, .slice (some ⟨gb, 0, none⟩) 512 512] w fun e w' => e = .returned (.int .i64 0) ∧
      (∃ gw cw, DkAt B w' g gn gl L cn cl (.slice (some ⟨gw, 0, none⟩) (W.length + 1) cw) (ns.set n (.string (secS x))) ls (W ++ [(n, secS x)]) (st + 1) ar le' false) ∧ Below B w w' := by
  subst hni
  subst hle
  refine (write_ok g _ _ vw st ar le w _ rfl W.length (wcells W) hm (Lib.hid h.own) (Lib.hid h.ne.2.2.2.1) gn L cn ns n hn (some ⟨gb, 0, none⟩) 512 (secS x) h0 h1 h2 h3 rfl (Lib.hid h.now) (Lib.hid ⟨h.ne.1, h.ne.2.2.2.2.1⟩) (Lib.hid h.head) hd (Lib.hid fun V hV => sec_conv (own_only hs hV fun k hk e => hgb (by cases hk; exact e)))).mono ?_
  rintro e w' ⟨rfl, gw, cw, a1, a2, a3, a4, a5, a6, a7⟩
  have hB := dk_size h
  have r3 := own_only h.rows a7 fun k hk e => by
    cases hk
    rcases e with e | e | e
    · exact h.ne.2.1 e
    · exact h.ne.2.2.2.2.2 e
    · exact h.ne.2.2.1 e.symm
  have hgl : gw ≠ gl := fun e => by
    obtain ⟨cur, hq⟩ := own_type a2
    obtain ⟨cur', hq'⟩ := own_type r3
    rw [e, hq'] at hq
    exact absurd hq (by simp)
  have hge : B ≤ gw := a4.elim (fun e => h.ge.2.2.2 _ e) (fun e => Nat.le_trans hB e)
  refine ⟨rfl, ⟨gw, cw, a1, a3, r3, ?_, ⟨h.ge.1, h.ge.2.1, h.ge.2.2.1, fun k hk => by cases hk; exact hge⟩, ⟨h.ne.1, h.ne.2.1, h.ne.2.2.1, fun e => a5 (by cases e; rfl), fun e => a6 (by cases e; rfl), fun e => hgl (by cases e; rfl)⟩⟩, ?_⟩
  · rw [wcells_snoc] at a2
    rw [List.length_append]
    exact a2
  · refine a7.below (fun k e => ?_) hB
    rcases e with e | e | e
    · exact e ▸ h.ge.1
    · exact h.ge.2.2.2 _ e
    · exact e ▸ h.ge.2.1
theorem vw_shape (h : w.ownsRow 0 58 2 vw W.length (wcells W)) : ∃ ao cw, vw = .slice ao W.length cw := by
  rcases h.2 with ⟨e, h0⟩ | ⟨gw, cap, cur, e, _⟩
  · exact ⟨none, 0, by rw [e, h0]⟩
  · exact ⟨_, cap, e⟩
theorem dk_barrier (le' : Int) (hle : (if ar = true then le - 1 else le) = le') (h : DkAt B w g gn gl L cn cl vw ns ls W st ar le false) (hin : ∀ x ∈ W, x.1 < L) (hm : W.length ≤ 1000000) (h0 : 0 ≤ le) (h1 : le ≤ 9223372036854775807) (h2 : 0 ≤ st) (h3 : st ≤ 1000000000) (hd : ¬ (ar = true ∧ le = 0)) :
    Calls Try.prog 10 #[.pointer (some ⟨g, 0, none⟩)] w fun e w' => e = .returned (.int .i64 0) ∧
      DkAt B w' g gn gl L cn cl (.slice none 0 0) ns (setAll ls W) [] (st + 1) ar le' false ∧ Below B w w' := by
  subst hle
  obtain ⟨ao, cw, rfl⟩ := vw_shape h.own
  refine (barrier_ok g _ st ar le w _ rfl ao cw W W.length rfl hm gl L cl ls (Lib.hid h.own) (Lib.hid ⟨h.ne.2.2.2.1, h.ne.2.2.2.2.2, h.ne.2.1⟩) (Lib.hid hin) (Lib.hid h.rows) h0 h1 h2 h3 (Lib.hid h.head) hd).mono ?_
  rintro e w' ⟨rfl, a1, a2, a3⟩
  refine ⟨rfl, ⟨a1, own_only h.now a3 fun k hk e => ?_, a2, World.ownsRow_nil _ _ _ _, ⟨h.ge.1, h.ge.2.1, h.ge.2.2.1, fun k hk => by cases hk⟩, ⟨h.ne.1, h.ne.2.1, h.ne.2.2.1, by simp [Value.ownBlock], by simp [Value.ownBlock], by simp [Value.ownBlock]⟩⟩, a3.below (fun k e => ?_) (dk_size h)⟩
  · cases hk
    rcases e with e | e
    · exact h.ne.1 e
    · exact h.ne.2.2.1 e
  · rcases e with e | e
    · exact e ▸ h.ge.1
    · exact e ▸ h.ge.2.2.1
theorem dk_crash (h : DkAt B w g gn gl L cn cl vw ns ls W st ar le off) (hls : AllStr ls) (hin : ∀ x ∈ W, x.1 < L) (hm : W.length ≤ 1000000) (sp : Option Addr) (P cp : Nat) (pk : Nat → Int)
    (hpk : ∀ W', Only (· = gl) w W' → ∀ i, i < P → ∃ g' o, sp = some ⟨g', o, none⟩ ∧ W'.cell? ⟨g', o + i, none⟩ = some (.int .i64 (pk i))) :
    Calls Try.prog 11 #[.pointer (some ⟨g, 0, none⟩), .slice sp P cp] w fun e w' => e = .returned (.tuple #[]) ∧
      DkAt B w' g gn gl L cn cl (.slice none 0 0) (nowTo ns (pickTo ls W (fun i => decide (i < P) && od (pk i)) W.length) W W.length) (pickTo ls W (fun i => decide (i < P) && od (pk i)) W.length) [] st false 0 false ∧ Below B w w' := by
  obtain ⟨ao, cw, rfl⟩ := vw_shape h.own
  refine (crash_any g st ar le off w ao cw W W.length rfl hm gl gn L cl cn ls ns (Lib.hid hls) (Lib.hid h.own) (Lib.hid ⟨h.ne.2.2.2.1, h.ne.2.2.2.2.2, h.ne.2.1, h.ne.2.2.2.2.1, h.ne.1, h.ne.2.2.1⟩) (Lib.hid hin) (Lib.hid h.rows) (Lib.hid h.now) sp P cp pk (Lib.hid hpk) (Lib.hid h.head)).mono ?_
  rintro e w' ⟨rfl, a1, a2, a3, a4⟩
  refine ⟨rfl, ⟨a1, a3, a2, World.ownsRow_nil _ _ _ _, ⟨h.ge.1, h.ge.2.1, h.ge.2.2.1, fun k hk => by cases hk⟩, ⟨h.ne.1, h.ne.2.1, h.ne.2.2.1, by simp [Value.ownBlock], by simp [Value.ownBlock], by simp [Value.ownBlock]⟩⟩, a4.below (fun k e => ?_) (dk_size h)⟩
  rcases e with e | e | e
  · exact e ▸ h.ge.1
  · exact e ▸ h.ge.2.2.1
  · exact e ▸ h.ge.2.1
end
end Go.Proofs.Ytmojieomdbfjcaa
