/- Two disks, one a copy: contracts of Image, Copy, Same, and of all that DiskApart does to a disk of six sectors. -/
import Derived.Test.YtmojieomdbfjcaaKeepA
import Derived.Test.YtmojieomdbfjcaaReg
import Derived.Lib.Join
namespace Go.Proofs.Ytmojieomdbfjcaa
open Go.ChangeShapes Go.WideShapes Go.ChangeAt Go.RowKit
set_option linter.unusedVariables false

def strs (ls : List ByteArray) : List Value := ls.map Value.string
/-- all sectors, one behind the other -/
def img (ls : List ByteArray) : ByteArray := ⟨((ls.map (·.data.toList)).flatten).toArray⟩
theorem joinTail_nil (r : List (List UInt8)) : Lib.joinTail [] r = r.flatten := by
  unfold Lib.joinTail
  congr 1
  induction r with
  | nil => rfl
  | cons a t ih => simp
theorem join_flat : ∀ (xs : List (List UInt8)), Lib.join xs [] = xs.flatten
  | [] => rfl
  | x :: r => by rw [Lib.join_cons, joinTail_nil]; rfl
theorem flat_inj (n : Nat) : ∀ (a b : List (List UInt8)), a.length = b.length → (∀ x ∈ a, x.length = n) → (∀ x ∈ b, x.length = n) → a.flatten = b.flatten → a = b
  | [], [], _, _, _, _ => rfl
  | x :: a, y :: b, h, ha, hb, e => by
    rw [List.flatten_cons, List.flatten_cons] at e
    have hx := ha x (List.mem_cons_self ..)
    have hy := hb y (List.mem_cons_self ..)
    obtain ⟨e1, e2⟩ := List.append_inj e (by rw [hx, hy])
    rw [e1, flat_inj n a b (by simpa using h) (fun z hz => ha z (List.mem_cons_of_mem _ hz)) (fun z hz => hb z (List.mem_cons_of_mem _ hz)) e2]
  | [], _ :: _, h, _, _, _ => by simp at h
  | _ :: _, [], h, _, _, _ => by simp at h
def Sz (ls : List ByteArray) : Prop := ls.length = 6 ∧ ∀ t ∈ ls, t.size = 512
theorem img_inj {a b : List ByteArray} (ha : Sz a) (hb : Sz b) (h : img a = img b) : a = b := by
  have h1 : (a.map (·.data.toList)).flatten = (b.map (·.data.toList)).flatten := by
    have := congrArg (fun x => x.data.toList) h
    simpa [img] using this
  have h2 := flat_inj 512 _ _ (by simp [ha.1, hb.1]) (by
    intro x hx
    obtain ⟨t, ht, rfl⟩ := List.mem_map.1 hx
    have := ha.2 t ht
    simpa using this) (by
    intro x hx
    obtain ⟨t, ht, rfl⟩ := List.mem_map.1 hx
    have := hb.2 t ht
    simpa using this) h1
  refine (List.map_inj_right (f := fun t : ByteArray => t.data.toList) ?_).1 h2
  intro x y e
  exact ByteArray.ext (Array.toList_inj.1 e)
theorem img_len {ls : List ByteArray} (h : Sz ls) : (Lib.join (ls.map (·.data.toList)) ([] : List UInt8)).length ≤ 10000 ∧ 0 < (img ls).size := by
  obtain ⟨h6, hs⟩ := h
  match ls, h6 with
  | [a, b, c, d, e, f], _ =>
    have ha := hs a (by simp)
    have hb := hs b (by simp)
    have hc := hs c (by simp)
    have hd := hs d (by simp)
    have he := hs e (by simp)
    have hf := hs f (by simp)
    rw [join_flat]
    have e1 : ∀ t : ByteArray, t.data.toList.length = t.size := fun t => by simp
    constructor
    · simp only [List.map_cons, List.map_nil, List.flatten_cons, List.flatten_nil, List.length_append, e1, List.length_nil]; omega
    · show 0 < ((List.flatten _).toArray).size
      simp only [List.size_toArray, List.map_cons, List.map_nil, List.flatten_cons, List.flatten_nil, List.length_append, e1, List.length_nil]; omega
/-- sectors that are written -/
def setT (ls : List ByteArray) (W : List (Nat × ByteArray)) : List ByteArray := W.foldl (fun l x => l.set x.1 x.2) ls
theorem setAll_strs (W : List (Nat × ByteArray)) : ∀ ls, setAll (strs ls) W = strs (setT ls W) := by
  unfold setAll setT
  induction W with
  | nil => intro ls; rfl
  | cons x t ih =>
    intro ls
    rw [List.foldl_cons, List.foldl_cons, ← ih]
    congr 1
    unfold strs
    rw [List.map_set]
theorem setT_sz (W : List (Nat × ByteArray)) : ∀ ls, Sz ls → (∀ x ∈ W, x.1 < 6 ∧ x.2.size = 512) → Sz (setT ls W) := by
  unfold setT
  induction W with
  | nil => intro ls h _; exact h
  | cons x t ih =>
    intro ls h hW
    rw [List.foldl_cons]
    refine ih _ ⟨by rw [List.length_set]; exact h.1, fun u hu => ?_⟩ fun y hy => hW y (List.mem_cons_of_mem _ hy)
    rcases List.mem_or_eq_of_mem_set hu with h' | h'
    · exact h.2 u h'
    · rw [h']; exact (hW x (List.mem_cons_self ..)).2
/-- a disk of six sectors, with power, that nobody armed: what lasts on it -/
def D6 (B : Nat) (w : World) (g : Nat) (ls : List ByteArray) (k : Nat) : Prop := ∃ gn gl cn cl vw ns W st, DkAt B w g gn gl 6 cn cl vw ns (strs ls) W st false 0 false ∧ (∀ x ∈ W, x.1 < 6 ∧ x.2.size = 512) ∧ W.length ≤ k ∧ 0 ≤ st ∧ st ≤ (k : Int) ∧ Sz ls
theorem d6_below {B : Nat} {w w' : World} {g k : Nat} {ls : List ByteArray} (h : D6 B w g ls k) (hb : Below w.heap.size w w') : D6 B w' g ls k := by
  obtain ⟨gn, gl, cn, cl, vw, ns, W, st, h1, h2⟩ := h
  exact ⟨gn, gl, cn, cl, vw, ns, W, st, h1.below hb, h2⟩
theorem d6_mono {B : Nat} {w : World} {g k k' : Nat} {ls : List ByteArray} (h : D6 B w g ls k) (hk : k ≤ k') : D6 B w g ls k' := by
  obtain ⟨gn, gl, cn, cl, vw, ns, W, st, h1, h2, h3, h4, h5, h6⟩ := h
  exact ⟨gn, gl, cn, cl, vw, ns, W, st, h1, h2, by omega, h4, by omega, h6⟩
theorem d6_lt {B : Nat} {w : World} {g k : Nat} {ls : List ByteArray} (h : D6 B w g ls k) : g < w.heap.size ∧ B ≤ g := by
  obtain ⟨gn, gl, cn, cl, vw, ns, W, st, h1, _⟩ := h
  exact ⟨head_lt h1.head, h1.ge.1⟩
set_option maxRecDepth 20000 in
theorem write_bad {B : Nat} {w : World} {g gn gl cn cl : Nat} {vw : Value} {ns ls : List Value} {W : List (Nat × ByteArray)} {st : Int} (h : DkAt B w g gn gl 6 cn cl vw ns ls W st false 0 false) (n : Int) (hn : ¬ (0 ≤ n ∧ n < 6)) (gb : Nat) :
    Calls Try.prog 8 #[.pointer (some ⟨g, 0, none⟩), .int .i64 n, .slice (some ⟨gb, 0, none⟩) 512 512] w fun e w' => e = .returned (.int .i64 1) ∧ w = w' := by
  have hc6 := head6 h.head
  have HH := Lib.hid (has_any g _ _ vw st false 0 false w (some ⟨gn, 0, none⟩) n 6 cn rfl (Lib.hid h.head))
  have hg0 : decide ((0 : Int) ≤ n ∧ n < ((6 : Nat) : Int)) = false := decide_eq_false hn
  rw [hg0] at HH
  clear h hn
  go_enter Try.func8, Try.ntmps8
  go_wp2_with fail
  refine HH.out.mono ?_
  rintro e w' ⟨rfl, hww⟩
  have hww := hww.symm
  subst hww
  go_wp2_with fail
  go_ret
  exact ⟨rfl, rfl⟩
theorem d6_write {B : Nat} {w : World} {g k : Nat} {ls : List ByteArray} (h : D6 B w g ls k) (hk : k ≤ 100) (n x : Int) (gb : Nat) (hs : Sec w gb x) (hgb : gb ≠ g) :
    Calls Try.prog 8 #[.pointer (some ⟨g, 0, none⟩), .int .i64 n, .slice (some ⟨gb, 0, none⟩) 512 512] w fun e w' => ∃ v : Int, e = .returned (.int .i64 v) ∧ D6 B w' g ls (k + 1) ∧ Below B w w' := by
  obtain ⟨gn, gl, cn, cl, vw, ns, W, st, h1, h2, h3, h4, h5, h6⟩ := h
  by_cases hn : 0 ≤ n ∧ n < 6
  · obtain ⟨m, rfl⟩ := Int.eq_ofNat_of_zero_le hn.1
    refine (dk_write2 0 rfl (m : Int) m rfl h1 (by omega) gb x hs hgb (by omega) (by decide) (by decide) (by omega) (by omega) (by decide)).mono ?_
    rintro e w' ⟨rfl, gw, cw, a1, a2, _⟩
    refine ⟨0, rfl, ⟨gn, gl, cn, cl, _, _, _, _, a1, fun y hy => ?_, by rw [List.length_append]; simp; omega, by omega, by omega, h6⟩, a2⟩
    rcases List.mem_append.1 hy with hy | hy
    · exact h2 y hy
    · rw [List.mem_singleton] at hy
      rw [hy]
      exact ⟨by show m < 6; omega, secS_size x⟩
  · refine (write_bad h1 n hn gb).mono ?_
    rintro e w' ⟨rfl, rfl⟩
    exact ⟨1, rfl, ⟨gn, gl, cn, cl, vw, ns, W, st, h1, h2, by omega, h4, by omega, h6⟩, Below.refl _ _⟩
theorem d6_barrier {B : Nat} {w : World} {g k : Nat} {ls : List ByteArray} (h : D6 B w g ls k) (hk : k ≤ 100) :
    Calls Try.prog 10 #[.pointer (some ⟨g, 0, none⟩)] w fun e w' => e = .returned (.int .i64 0) ∧ ∃ ls', D6 B w' g ls' (k + 1) ∧ Below B w w' := by
  obtain ⟨gn, gl, cn, cl, vw, ns, W, st, h1, h2, h3, h4, h5, h6⟩ := h
  refine (dk_barrier2 0 rfl h1 (fun x hx => (h2 x hx).1) (by omega) (by decide) (by decide) (by omega) (by omega) (by decide)).mono ?_
  rintro e w' ⟨rfl, a1, a2, _⟩
  rw [setAll_strs] at a1
  exact ⟨rfl, _, ⟨gn, gl, cn, cl, _, _, _, _, a1, by simp, by simp, by omega, by omega, setT_sz W ls h6 h2⟩, a2⟩
theorem sn_all (s : ByteArray) : strOfNums (s.data.toList.map fun b => (b.toNat : Int)) = s := by
  apply ByteArray.ext
  apply Array.toList_inj.1
  have e : ((fun n : Int => UInt8.ofNat n.toNat) ∘ (fun b : UInt8 => (b.toNat : Int))) = id := by funext b; simp
  simp [strOfNums, e]
theorem back_conv {w V : World} {b c : Nat} {s : ByteArray} (h : ∀ j, j < s.size → w.cell? ⟨b, j, none⟩ = some (.int .u8 (s.data.toList.getD j 0).toNat)) (hb : Below w.heap.size w V) : (convert 22 9 (.slice (some ⟨b, 0, none⟩) s.size c)).run Try.prog V = .ok (.string s) V := by
  have := run_convert_bytes_arg (P := Try.prog) V 22 5 Try.underlying22 Try.underlying5 b 0 s.size c (s.data.toList.map fun b => (b.toNat : Int)) (by simp) (fun i hi => by
    have hi2 : i < s.data.toList.length := by simpa using hi
    rw [Nat.zero_add, hb.cell (World.block_lt_of_cell? w _ (h i hi)), h i hi]
    simp [List.getD, hi]) 9 Try.underlying9
  rwa [sn_all] at this
set_option maxRecDepth 20000 in
theorem d6_image {B : Nat} {w : World} {g k : Nat} {ls : List ByteArray} (h : D6 B w g ls k) :
    Calls Try.prog 16 #[.pointer (some ⟨g, 0, none⟩)] w fun e w' => ∃ v, e = .returned v ∧ Hid (∀ V, Below w'.heap.size w' V → (convert 22 9 v).run Try.prog V = .ok (.string (img ls)) V) ∧ Below w.heap.size w w' := by
  obtain ⟨gn, gl, cn, cl, vw, ns, W, st, h1, h2, h3, h4, h5, h6⟩ := h
  have hc1 := head1 h1.head
  have hgl : gl < w.heap.size := by obtain ⟨cur, hq⟩ := own_type h1.rows; exact (Array.getElem?_eq_some_iff.1 hq).1
  have hcl : 6 ≤ cl := by
    rcases h1.rows.2 with ⟨e, h0⟩ | ⟨q, cap, cur, e, _, _, r, _⟩
    · cases e
    · cases e; exact r
  have HJ := Try.strings_Join gl 0 cl ls ⟨#[]⟩ w (fun j x hj => by
    have hjl := (List.getElem?_eq_some_iff.1 hj).1
    rw [Nat.zero_add, World.ownsRow.cellAt h1.rows j (by rw [h6.1] at hjl; omega)]
    unfold strs
    rw [List.getElem?_map, hj]; rfl) hgl (by rw [h6.1]; decide) (by rw [h6.1]; exact hcl) (by have := (img_len h6).1; exact Nat.le_trans this (by decide))
  rw [h6.1] at HJ
  have hji : (⟨(Lib.join (ls.map (·.data.toList)) (⟨#[]⟩ : ByteArray).data.toList).toArray⟩ : ByteArray) = img ls := by
    unfold img
    rw [← join_flat]
  rw [hji] at HJ
  have HJ := Lib.hid HJ
  have HB := Lib.hid (fun (V : World) => And.intro (Lib.run_convert_string_bytes (P := Try.prog) V 9 22 5 (img ls) Try.underlying9 Try.underlying22 Try.underlying5) (read_world V 5 (img ls)))
  clear h1 h2 h3 h4 h5 h6 hcl hji hgl
  generalize img ls = s at *
  go_enter Try.func16, Try.ntmps16
  go_wp2_with fail
  refine HJ.out.mono ?_
  rintro e w1 ⟨rfl, hb1⟩
  have hb1' := Lib.hid hb1
  obtain ⟨hcv, hrw⟩ := HB.out w1
  have hrw := Lib.hid hrw
  clear hb1 HB
  generalize Lib.bytesWorld w1 5 s = w2 at *
  generalize grownCap w1 s.size 0 5 = cp at *
  go_wp2_with fail
  go_ret
  exact ⟨_, rfl, Lib.hid fun V hV => back_conv hrw.out.1 hV, hb1'.out.trans (hrw.out.2.2.mono hb1'.out.size)⟩
end Go.Proofs.Ytmojieomdbfjcaa
