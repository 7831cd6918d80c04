/- The document's words of val: the bytes. -/
import Derived.Test.YtpacjcgpeomnaaaDoorValS
namespace Go.Proofs.YtpacjcgpeomnaaaDoor
open Go.ChangeShapes Go.WideShapes Go.ChangeAt Go.RowKit
open Go.Proofs.YtpacjcgpeomnaaaDoor.Fw (zz vb bytesOf cells)
set_option linter.unusedVariables false
set_option maxRecDepth 20000

mutual
/-- the bytes behind those that are there; they are cut when they are too many -/
def bytesC (l : List Nat) : T → List Nat
  | .mk k n t ks => if 32768 < l.length then l else bytesCs (l ++ front (.mk k n t ks)) ks
def bytesCs (l : List Nat) : List T → List Nat
  | [] => l
  | v :: vs => bytesCs (bytesC l v) vs
end
theorem bytesC_eq (l : List Nat) (v : T) : bytesC l v = if 32768 < l.length then l else bytesCs (l ++ front v) v.ks := by
  obtain ⟨k, n, t, ks⟩ := v
  rw [bytesC]; rfl
theorem bytesCs_nil (l : List Nat) : bytesCs l [] = l := by rw [bytesCs]
theorem bytesCs_cons (l : List Nat) (v : T) (vs : List T) : bytesCs l (v :: vs) = bytesCs (bytesC l v) vs := by rw [bytesCs]
theorem bytesCs_snoc : ∀ (a : List T) (l : List Nat) (v : T), bytesCs l (a ++ [v]) = bytesC (bytesCs l a) v
  | [], l, v => by rw [List.nil_append, bytesCs_cons, bytesCs_nil, bytesCs_nil]
  | x :: a, l, v => by rw [List.cons_append, bytesCs_cons, bytesCs_cons, bytesCs_snoc a _ v]
/-- all the bytes, if they aren't too many -/
theorem bytesC_tot (v : T) : ∀ (d : Nat) (l : List Nat), (l.length + totN (v.pre d) ≤ 32768 → bytesC l v = l ++ (v.pre d).flatMap fun x => front x.2) ∧ (16384 < l.length + totN (v.pre d) → 16384 < (bytesC l v).length) := by
  have tcons : ∀ (x : Nat × T) (r : List (Nat × T)), totN (x :: r) = (front x.2).length + totN r := fun x r => by unfold totN; rw [List.flatMap_cons, List.length_append]
  have tapp : ∀ (a b : List (Nat × T)), totN (a ++ b) = totN a + totN b := fun a b => by unfold totN; rw [List.flatMap_append, List.length_append]
  have key : ∀ (ks : List T), (∀ v ∈ ks, ∀ (d : Nat) (l : List Nat), (l.length + totN (v.pre d) ≤ 32768 → bytesC l v = l ++ (v.pre d).flatMap fun x => front x.2) ∧ (16384 < l.length + totN (v.pre d) → 16384 < (bytesC l v).length)) →
      ∀ (d : Nat) (l : List Nat), (l.length + totN (T.pres d ks) ≤ 32768 → bytesCs l ks = l ++ (T.pres d ks).flatMap fun x => front x.2) ∧ (16384 < l.length + totN (T.pres d ks) → 16384 < (bytesCs l ks).length) := by
    intro ks
    induction ks with
    | nil =>
      intro _ d l
      rw [tpres_nil, bytesCs_nil]
      exact ⟨fun _ => by simp, fun h => by simpa [totN] using h⟩
    | cons v vs ih =>
      intro h d l
      have e1 : T.pres d (v :: vs) = T.pre d v ++ T.pres d vs := by conv => lhs; unfold T.pres
      obtain ⟨a1, a2⟩ := h v (by simp) d l
      obtain ⟨b1, b2⟩ := ih (fun u hu => h u (List.mem_cons_of_mem _ hu)) d (bytesC l v)
      rw [e1, bytesCs_cons, tapp]
      have e3 : l.length + totN (v.pre d) ≤ 32768 → (bytesC l v).length = l.length + totN (v.pre d) := fun hh => by rw [a1 hh, List.length_append]; rfl
      refine ⟨fun hh => ?_, fun hh => ?_⟩
      · rw [b1 (by rw [e3 (by omega)]; omega), a1 (by omega), List.flatMap_append, List.append_assoc]
      · by_cases hs : l.length + totN (v.pre d) ≤ 32768
        · exact b2 (by rw [e3 hs]; omega)
        · exact b2 (by have := a2 (by omega); omega)
  induction v using T.ind with
  | h k n t ks ih =>
    intro d l
    obtain ⟨h1, h2⟩ := key ks ih (d + 1) (l ++ front (.mk k n t ks))
    rw [bytesC_eq, T.pre_eq, tcons]
    show (_ → (if 32768 < l.length then l else bytesCs (l ++ front (.mk k n t ks)) ks) = _) ∧ (_ → 16384 < (if 32768 < l.length then l else bytesCs (l ++ front (.mk k n t ks)) ks).length)
    rw [List.length_append] at h1 h2
    refine ⟨fun hh => ?_, fun hh => ?_⟩
    · have hh : l.length + ((front (.mk k n t ks)).length + totN (T.pres (d + 1) ks)) ≤ 32768 := hh
      rw [if_neg (by omega), h1 (by omega), List.flatMap_cons, List.append_assoc]
      rfl
    · have hh : 16384 < l.length + ((front (.mk k n t ks)).length + totN (T.pres (d + 1) ks)) := hh
      by_cases hs : 32768 < l.length
      · rw [if_pos hs]; omega
      · rw [if_neg hs]; exact h2 (by omega)
/-- blocks that aren't bytes stay -/
def KeepN (w w' : World) : Prop := ∀ (q : Nat) (cs : Array Value) (t : TypeId) (fr : Nat × Nat), t ≠ 5 → w.heap[q]? = some (Obj.cells cs t fr) → w'.heap[q]? = some (Obj.cells cs t fr)
theorem KeepN.refl (w : World) : KeepN w w := fun _ _ _ _ _ h => h
theorem KeepN.trans {a b c : World} (h : KeepN a b) (k : KeepN b c) : KeepN a c := fun q cs t fr ht hq => k q cs t fr ht (h q cs t fr ht hq)
theorem KeepN.of_below {w w' : World} (h : Below w.heap.size w w') : KeepN w w' := fun q cs t fr _ hq => by rw [h.block q (Array.getElem?_eq_some_iff.1 hq).1]; exact hq
theorem KeepN.grown {B : Nat} {w w' : World} {v : Value} {l : List Nat} (h : Fw.Own B v l w) (hg : w.grownBy w' v.ownBlock) : KeepN w w' := fun q cs t fr ht hq => by
  rw [hg.block q (Array.getElem?_eq_some_iff.1 hq).1 fun e => ?_]
  · exact hq
  · obtain ⟨_, cur, hc⟩ := own_blk h e.symm
    rw [hq] at hc
    cases hc
    exact ht rfl
theorem app_str {B : Nat} {w : World} {v : Value} {l : List Nat} (h : Fw.Own B v l w) (hB : B ≤ w.heap.size) (bs : List Nat) (hbs : ∀ b ∈ bs, b < 256) (hn : l.length + bs.length ≤ 1000000000) (ty : TypeId) :
    ∃ v' w', (Builtin.append_ #[29, 9] ty #[v, .string (Fw.sv bs)]).run Tryd.prog w = .ok v' w' ∧ Fw.Own B v' (l ++ bs) w' ∧ Below B w w' ∧ KeepN w w' := by
  obtain ⟨i0, hi, hz0, hz1, hz2⟩ := info_parts Fw.info8
  have hsz : (Fw.sv bs).size = bs.length := Fw.sv_size bs
  have hby : bytesOf (Fw.sv bs) = bs := by
    rw [sv_st bs hbs]
    unfold Fw.bytesOf
    rw [show (Fd.st (tU bs)).data.toList = tU bs from Fd.st_list _]
    unfold tU
    rw [List.map_map]
    conv => rhs; rw [← List.map_id bs]
    apply List.map_congr_left
    intro b hb
    have := hbs b hb
    simp
    omega
  obtain ⟨v', w', hr, a1, a2, _⟩ := Lib.run_append_own_string (P := Tryd.prog) (w := w) B 29 9 ty 5 i0 Tryd.underlying29 Tryd.underlying9 hi hz0 hz1 hz2 v l.length _ h (Fw.sv bs) (by unfold maxLen; omega) (by omega) hB
  refine ⟨v', w', hr, ?_, (Below.refl B _).grown a2 hB fun k hk => Fw.own_ge h hk, KeepN.grown h a2⟩
  rw [hsz, Fw.strCells_is, hby] at a1
  unfold Fw.Own
  rw [List.length_append, show cells (l ++ bs) = cells l ++ cells bs by simp [cells]]
  exact a1
end Go.Proofs.YtpacjcgpeomnaaaDoor
