/- A slice of structs among the arguments, of whose fields one is a slice of bytes, the others integers, opened as one list. Of whatever program. -/
import Derived.Deep.Slices
import Derived.Deep.Fields
import Derived.ChangeSame
import Derived.ChangeSlices
import Derived.WalkKit
namespace Go.Proofs.YtfhgdcljhncjmaaDoor
open Go.ChangeShapes Go.WideShapes Go.Deep

/-- bytes that came in: nothing, or a row of cells -/
def Bytes8 (w : World) (a0 : Option Addr) (len0 cap0 : Nat) (z0 : List Int) : Prop :=
  (a0 = none ∧ len0 = 0 ∧ cap0 = 0 ∧ z0 = []) ∨ ∃ x, a0 = some x ∧ len0 ≤ cap0 ∧ cap0 ≤ maxLen ∧ z0.length = cap0 ∧ (∀ i, i < z0.length → w.cell? (x.add i) = some (.int .u8 (z0.getD i 0))) ∧ ∀ n ∈ z0, (Lit.int .u8 n).wf = true
/-- the integers, by their fields' numbers; the bytes -/
abbrev EntS := (Nat → Int) × (Option Addr × Nat × Nat × List Int)
def entD : EntS := (fun _ => 0, none, 0, 0, [])
def EntAt (st j : Nat) (w : World) (x : Addr) (i : Nat) (e : EntS) : Prop :=
  (∀ f, f < st → f ≠ j → w.cell? (x.add (i * st + f)) = some (.int .i64 (e.1 f))) ∧ w.cell? (x.add (i * st + j)) = some (.slice e.2.1 e.2.2.1 e.2.2.2.1) ∧ Bytes8 w e.2.1 e.2.2.1 e.2.2.2.1 e.2.2.2.2
def EntOk (st j : Nat) (e : EntS) : Prop := ∀ f, f < st → f ≠ j → (Lit.int .i64 (e.1 f)).wf = true
/-- nil, or a row of cap structs of st cells each, of which the j-th is a slice of bytes -/
def IsRS (st j : Nat) (w : World) (a : Option Addr) (len cap : Nat) (z : List EntS) : Prop :=
  (a = none ∧ len = 0 ∧ cap = 0 ∧ z = []) ∨
  ∃ x, a = some x ∧ len ≤ cap ∧ cap ≤ maxLen ∧ z.length = cap ∧ (∀ i, i < z.length → EntAt st j w x i (z.getD i entD)) ∧ ∀ n ∈ z, EntOk st j n
def isInt64 (P : Program) (f : Field) : Bool := match P.underlying f.type with
  | some (.int .i64) => true
  | _ => false
def isBytes8 (P : Program) (f : Field) : Bool := match P.underlying f.type with
  | some (.slice e) => P.cellsOf e == 1 && (match P.underlying e with
    | some (.int .u8) => true
    | _ => false)
  | _ => false
theorem isInt64_of {P : Program} {f : Field} (h : isInt64 P f = true) : P.underlying f.type = some (.int .i64) := by
  unfold isInt64 at h
  split at h
  · rename_i e; exact e
  · cases h
theorem isBytes8_of {P : Program} {f : Field} (h : isBytes8 P f = true) : ∃ e, P.underlying f.type = some (.slice e) ∧ P.cellsOf e = 1 ∧ P.underlying e = some (.int .u8) := by
  unfold isBytes8 at h
  split at h
  · rename_i e he
    simp only [Bool.and_eq_true, beq_iff_eq] at h
    refine ⟨e, he, h.1, ?_⟩
    have h2 := h.2
    split at h2
    · rename_i e2; exact e2
    · cases h2
  · cases h
def rowsS (P : Program) (e : TypeId) (st j : Nat) : Bool := match P.underlying e with
  | some (.struct fs) => oneCellFields P fs && fs.size == st && P.cellsOf e == st && decide (j < st) && (List.range st).all fun i => match fs[i]? with
    | some f => if i = j then isBytes8 P f else isInt64 P f
    | none => false
  | _ => false
theorem open_rs {H : Type} {enc : TypeId × Value → H} {P : Program} {w : World} {base : Nat} {held : Bool} {t e : TypeId} {fuel : Nat} {cs : List Value} {x : DataW H × List MemPlace} (st j : Nat) {fs : Array Field} (ht : P.underlying t = some (.slice e)) (he : P.underlying e = some (.struct fs)) (hc : rowsS P e st j = true)
    (h : DataW.trod enc P w base (fun _ => true) held fuel t cs = some x) :
    (cs = [.slice none 0 0] ∧ x = (.nil, [])) ∨
    ∃ (a : Addr) (len cap : Nat) (z : List EntS), cs = [.slice (some a) len cap] ∧ base ≤ a.block ∧ len ≤ cap ∧ cap ≤ maxLen ∧ z.length = cap ∧ True ∧
      (∀ i, i < z.length → EntAt st j w a i (z.getD i entD)) ∧ ∀ n ∈ z, EntOk st j n := by
  unfold rowsS at hc
  rw [he] at hc
  simp only [Bool.and_eq_true, beq_iff_eq, decide_eq_true_eq] at hc
  obtain ⟨⟨⟨⟨h1, h2⟩, h3⟩, hj⟩, h4⟩ := hc
  have h4' : ∀ i, i < st → ∃ f, fs[i]? = some f ∧ (if i = j then isBytes8 P f else isInt64 P f) = true := fun i hi => by
    have h5 := List.all_eq_true.1 h4 i (List.mem_range.2 hi)
    split at h5
    · rename_i f hf; exact ⟨f, hf, h5⟩
    · cases h5
  rcases open_slice ht h with h0 | ⟨a, len, cap, m, n, D, Pl, hcs, hb, hl, hm, hmm, _, hi⟩
  · exact .inl h0
  · right
    have hmc : m = cap := by simpa using hmm
    subst hmc
    have key : ∀ i, ∃ p : EntS, i < m → EntAt st j w a i p ∧ EntOk st j p := by
      intro i
      by_cases him : i < m
      · obtain ⟨cs', hc, ht'⟩ := hi i him
        rw [h3] at hc
        obtain ⟨ys, n', _, _, _, hyl, hf⟩ := DataW.trod_struct he ht'
        obtain ⟨_, hcl, hat⟩ := World.cells?_some hc
        have at_ : ∀ (q : Nat) (f : Field), fs[q]? = some f → ∃ v y, w.cell? (a.add (i * st + q)) = some v ∧ DataW.trod enc P w base (fun _ => true) held n' f.type [v] = some y := by
          intro q f hq
          have hql : q < fs.size := (Array.getElem?_eq_some_iff.1 hq).1
          obtain ⟨ho, hone⟩ := hone_of h1 q f hq
          have h5 := hf q f hq
          rw [ho, hone] at h5
          have hv : (cs'.drop q).take 1 = [cs'[q]'(by omega)] := by
            rw [List.drop_eq_getElem_cons (by omega)]
            rfl
          rw [hv, List.getElem?_eq_getElem (by omega)] at h5
          refine ⟨_, _, ?_, h5⟩
          have h6 := hat q (by omega)
          rw [Go.Deep.add_add, List.getElem?_eq_getElem (by omega)] at h6
          exact h6
        have ints : ∀ q, ∃ v : Int, q < st → q ≠ j → w.cell? (a.add (i * st + q)) = some (.int .i64 v) ∧ (Lit.int .i64 v).wf = true := by
          intro q
          by_cases hq : q < st ∧ q ≠ j
          · obtain ⟨f, hf1, hf2⟩ := h4' q hq.1
            rw [if_neg hq.2] at hf2
            obtain ⟨v, y, hv, hy⟩ := at_ q f hf1
            obtain ⟨u, hu, _, hw⟩ := DataW.trod_int (isInt64_of hf2) hy
            simp at hu
            exact ⟨u, fun _ _ => ⟨by rw [hv, hu], hw⟩⟩
          · exact ⟨0, fun x1 x2 => absurd ⟨x1, x2⟩ hq⟩
        obtain ⟨F, hF⟩ := Classical.axiomOfChoice ints
        obtain ⟨f, hf1, hf2⟩ := h4' j hj
        rw [if_pos rfl] at hf2
        obtain ⟨v, y, hv, hy⟩ := at_ j f hf1
        obtain ⟨e8, u1, u2, u3⟩ := isBytes8_of hf2
        rcases open_ints u1 u3 u2 hy with ⟨g1, _⟩ | ⟨a8, l8, c8, z8, g1, _, g2, g3, g4, _, g5, g6⟩
        · simp at g1
          exact ⟨(F, none, 0, 0, []), fun _ => ⟨⟨fun q x1 x2 => (hF q x1 x2).1, by rw [hv, g1], .inl ⟨rfl, rfl, rfl, rfl⟩⟩, fun q x1 x2 => (hF q x1 x2).2⟩⟩
        · simp at g1
          exact ⟨(F, some a8, l8, c8, z8), fun _ => ⟨⟨fun q x1 x2 => (hF q x1 x2).1, by rw [hv, g1], .inr ⟨a8, rfl, g2, g3, by simpa using g4, g5, g6⟩⟩, fun q x1 x2 => (hF q x1 x2).2⟩⟩
      · exact ⟨entD, fun hh => absurd hh him⟩
    obtain ⟨F, hF⟩ := Classical.axiomOfChoice key
    refine ⟨a, len, m, (List.range m).map F, hcs, hb, hl, hm, by simp, trivial, fun i hi' => ?_, fun z hz => ?_⟩
    · have him : i < m := by simpa using hi'
      have e : ((List.range m).map F).getD i entD = F i := by simp [List.getD, him]
      rw [e]
      exact (hF i him).1
    · obtain ⟨i, hi', rfl⟩ := List.mem_map.1 hz
      exact (hF i (List.mem_range.1 hi')).2
end Go.Proofs.YtfhgdcljhncjmaaDoor
