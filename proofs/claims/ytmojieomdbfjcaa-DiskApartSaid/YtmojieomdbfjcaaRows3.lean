/- A slice of structs among the arguments, whose first three fields are integers, opened as one list. Of whatever program. -/
import Derived.Test.YtmojieomdbfjcaaRows
import Derived.Deep.Slices
import Derived.Deep.Fields
import Derived.ChangeSame
import Derived.WalkKit
namespace Go.Proofs.Ytmojieomdbfjcaa
open Go.ChangeShapes Go.WideShapes Go.Deep

/-- nil, or a row of cap structs of st cells each, whose first three are these integers -/
def IsR3 (st : Nat) (k0 k1 k2 : IntKind) (w : World) (a : Option Addr) (len cap : Nat) (z : List (Int × Int × Int)) : Prop :=
  (a = none ∧ len = 0 ∧ cap = 0 ∧ z = []) ∨
  ∃ x, a = some x ∧ len ≤ cap ∧ cap ≤ maxLen ∧ z.length = cap ∧
    (∀ i, i < z.length → w.cell? (x.add (i * st)) = some (.int k0 (z.getD i (0, 0, 0)).1) ∧ w.cell? (x.add (i * st + 1)) = some (.int k1 (z.getD i (0, 0, 0)).2.1) ∧ w.cell? (x.add (i * st + 2)) = some (.int k2 (z.getD i (0, 0, 0)).2.2)) ∧
    ∀ n ∈ z, (Lit.int k0 n.1).wf = true ∧ (Lit.int k1 n.2.1).wf = true ∧ (Lit.int k2 n.2.2).wf = true
def isKind (P : Program) (f : Field) (k : IntKind) : Bool := match P.underlying f.type with
  | some (.int k') => k' == k
  | _ => false
theorem isKind_of {P : Program} {f : Field} {k : IntKind} (h : isKind P f k = true) : P.underlying f.type = some (.int k) := by
  unfold isKind at h
  split at h
  · rename_i k' e
    rw [e]
    have : k' = k := by simpa using h
    rw [this]
  · cases h
def rows3 (P : Program) (e : TypeId) (st : Nat) (k0 k1 k2 : IntKind) : Bool := match P.underlying e with
  | some (.struct fs) => oneCellFields P fs && fs.size == st && P.cellsOf e == st && (match fs[0]?, fs[1]?, fs[2]? with
    | some f0, some f1, some f2 => isKind P f0 k0 && isKind P f1 k1 && isKind P f2 k2
    | _, _, _ => false)
  | _ => false
theorem open_r3 {H : Type} {enc : TypeId × Value → H} {P : Program} {w : World} {base : Nat} {held : Bool} {t e : TypeId} {fuel : Nat} {cs : List Value} {x : DataW H × List MemPlace} (st : Nat) (k0 k1 k2 : IntKind) {fs : Array Field} (ht : P.underlying t = some (.slice e)) (he : P.underlying e = some (.struct fs)) (hc : rows3 P e st k0 k1 k2 = true)
    (h : DataW.trod enc P w base (fun _ => true) held fuel t cs = some x) :
    (cs = [.slice none 0 0] ∧ x = (.nil, [])) ∨
    ∃ (a : Addr) (len cap : Nat) (z : List (Int × Int × Int)), cs = [.slice (some a) len cap] ∧ base ≤ a.block ∧ len ≤ cap ∧ cap ≤ maxLen ∧ z.length = cap ∧ True ∧
      (∀ i, i < z.length → w.cell? (a.add (i * st)) = some (.int k0 (z.getD i (0, 0, 0)).1) ∧ w.cell? (a.add (i * st + 1)) = some (.int k1 (z.getD i (0, 0, 0)).2.1) ∧ w.cell? (a.add (i * st + 2)) = some (.int k2 (z.getD i (0, 0, 0)).2.2)) ∧
      ∀ n ∈ z, (Lit.int k0 n.1).wf = true ∧ (Lit.int k1 n.2.1).wf = true ∧ (Lit.int k2 n.2.2).wf = true := by
  unfold rows3 at hc
  rw [he] at hc
  simp only [Bool.and_eq_true, beq_iff_eq] at hc
  obtain ⟨⟨⟨h1, h2⟩, h3⟩, h4⟩ := hc
  obtain ⟨f0, f1, f2, e0, e1, e2, q0, q1, q2⟩ : ∃ f0 f1 f2, fs[0]? = some f0 ∧ fs[1]? = some f1 ∧ fs[2]? = some f2 ∧ isKind P f0 k0 = true ∧ isKind P f1 k1 = true ∧ isKind P f2 k2 = true := by
    split at h4
    · rename_i f0 f1 f2 e0 e1 e2
      simp only [Bool.and_eq_true] at h4
      exact ⟨f0, f1, f2, e0, e1, e2, h4.1.1, h4.1.2, h4.2⟩
    · cases h4
  rcases open_slice ht h with h0 | ⟨a, len, cap, m, n, D, Pl, hcs, hb, hl, hm, hmm, _, hi⟩
  · exact .inl h0
  · right
    have hmc : m = cap := by simpa using hmm
    subst hmc
    have key : ∀ i, ∃ p : Int × Int × Int, i < m → (w.cell? (a.add (i * st)) = some (.int k0 p.1) ∧ w.cell? (a.add (i * st + 1)) = some (.int k1 p.2.1) ∧ w.cell? (a.add (i * st + 2)) = some (.int k2 p.2.2)) ∧ (Lit.int k0 p.1).wf = true ∧ (Lit.int k1 p.2.1).wf = true ∧ (Lit.int k2 p.2.2).wf = true := by
      intro i
      by_cases him : i < m
      · obtain ⟨cs', hc, ht'⟩ := hi i him
        rw [h3] at hc
        obtain ⟨ys, n', _, _, _, hyl, hf⟩ := DataW.trod_struct he ht'
        obtain ⟨_, hcl, hat⟩ := World.cells?_some hc
        have one : ∀ (j : Nat) (f : Field) (k : IntKind), fs[j]? = some f → isKind P f k = true → ∃ v : Int, w.cell? (a.add (i * st + j)) = some (.int k v) ∧ (Lit.int k v).wf = true := by
          intro j f k hj hk
          have hjl : j < fs.size := (Array.getElem?_eq_some_iff.1 hj).1
          obtain ⟨ho, hone⟩ := hone_of h1 j f hj
          have h5 := hf j f hj
          rw [ho, hone] at h5
          have hv : (cs'.drop j).take 1 = [cs'[j]'(by omega)] := by
            rw [List.drop_eq_getElem_cons (by omega)]
            rfl
          rw [hv, List.getElem?_eq_getElem (by omega)] at h5
          obtain ⟨v, hv2, _, hw⟩ := DataW.trod_int (isKind_of hk) h5
          refine ⟨v, ?_, hw⟩
          have h6 := hat j (by omega)
          rw [Go.Deep.add_add, List.getElem?_eq_getElem (by omega)] at h6
          rw [h6]
          simp at hv2
          rw [hv2]
        obtain ⟨v0, c0, w0⟩ := one 0 f0 k0 e0 q0
        obtain ⟨v1, c1, w1⟩ := one 1 f1 k1 e1 q1
        obtain ⟨v2, c2, w2⟩ := one 2 f2 k2 e2 q2
        exact ⟨(v0, v1, v2), fun _ => ⟨⟨c0, c1, c2⟩, w0, w1, w2⟩⟩
      · exact ⟨(0, 0, 0), fun hh => absurd hh him⟩
    obtain ⟨F, hF⟩ := Classical.axiomOfChoice key
    refine ⟨a, len, m, (List.range m).map F, hcs, hb, hl, hm, by simp, trivial, fun i hi' => ?_, fun z hz => ?_⟩
    · have him : i < m := by simpa using hi'
      have e : ((List.range m).map F).getD i (0, 0, 0) = F i := by simp [List.getD, him]
      rw [e]
      exact (hF i him).1
    · obtain ⟨i, hi', rfl⟩ := List.mem_map.1 hz
      exact (hF i (List.mem_range.1 hi')).2
end Go.Proofs.Ytmojieomdbfjcaa
