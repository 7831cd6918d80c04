/- A region that draws its order, by what each of its operations leaves: whatever order is picked. Of whatever program. -/
import Derived.Test.YtkaigmgnmdhngaaDoorRows
import Derived.Orders
namespace Go.Proofs.YtkaigmgnmdhngaaDoor

section
variable {P : Program} {ops : Array Oper} {Q : Exit → Act → World → Prop} {md : Region.Mode}

/-- how many have not come up -/
def unl (l : List Bool) : Nat := l.countP fun b => !b
theorem unl_set : ∀ (l : List Bool) (i : Nat), l[i]? = some false → unl (l.set i true) + 1 = unl l
  | [], _, h => by simp at h
  | b :: t, 0, h => by
    simp at h; subst h
    simp [unl]
  | b :: t, i + 1, h => by
    have ih := unl_set t i (by simpa using h)
    unfold unl at *
    simp only [List.set_cons_succ, List.countP_cons]
    omega
theorem unl_pos : ∀ (l : List Bool) (i : Nat), l[i]? = some false → 0 < unl l := fun l i h => by have := unl_set l i h; omega
theorem ready_false {i : Nat} {listed : Array Bool} (h : i ∈ Region.ready md ops listed) : listed.toList[i]? = some false := by
  have h1 := (mem_ready.1 h).1
  rcases Nat.lt_or_ge i listed.size with hl | hl
  · simp [hl] at h1 ⊢; exact h1
  · have hl' : ¬ i < listed.size := by omega
    simp [hl'] at h1
/-- what operation j has left -/
def left (ops : Array Oper) (a : Act) (j : Nat) : Value :=
  match (ops[j]?).bind (·.dst) with
  | some d => a.tmps.getD d undef
  | none => undef
/-- the operations leave each in a place of its own, within the frame -/
def own (ops : Array Oper) (N : Nat) : Bool :=
  (List.range ops.size).all fun i => match (ops[i]?).bind (·.dst) with
    | some d => decide (d < N) && (List.range ops.size).all fun j => i == j || (ops[j]?).bind (·.dst) != some d
    | none => true
theorem own_lt {N i d : Nat} (h : own ops N = true) (hi : (ops[i]?).bind (·.dst) = some d) : d < N ∧ ∀ j, j ≠ i → (ops[j]?).bind (·.dst) ≠ some d := by
  have hl : i < ops.size := by
    rcases Nat.lt_or_ge i ops.size with hl | hl
    · exact hl
    · rw [Array.getElem?_eq_none hl] at hi; cases hi
  have h1 := List.all_eq_true.1 h i (List.mem_range.2 hl)
  rw [hi] at h1
  simp only [Bool.and_eq_true, decide_eq_true_eq] at h1
  refine ⟨h1.1, fun j hj hjd => ?_⟩
  have hlj : j < ops.size := by
    rcases Nat.lt_or_ge j ops.size with hl | hl
    · exact hl
    · rw [Array.getElem?_eq_none hl] at hjd; cases hjd
  have h2 := List.all_eq_true.1 h1.2 j (List.mem_range.2 hlj)
  rw [hjd] at h2
  simp at h2
  exact hj h2.symm
theorem left_same {N i d : Nat} (h : own ops N = true) (hi : (ops[i]?).bind (·.dst) = some d) (a : Act) (ha : a.tmps.size = N) (v : Value) : left ops (a.put (some d) v) i = v := by
  unfold left
  rw [hi]
  have := (own_lt h hi).1
  simp [Act.put, Array.getD, ha, this]
theorem left_other {N i j d : Nat} (h : own ops N = true) (hi : (ops[i]?).bind (·.dst) = some d) (hj : j ≠ i) (a : Act) (v : Value) : left ops (a.put (some d) v) j = left ops a j := by
  unfold left
  cases hjd : (ops[j]?).bind (·.dst) with
  | none => rfl
  | some e =>
    have hne : e ≠ d := fun he => (own_lt h hi).2 j hj (by rw [hjd, he])
    simp only [Act.put, Array.getD_eq_getD_getElem?]
    rw [Array.getElem?_setIfInBounds_ne (Ne.symm hne)]
/-- each waits for earlier ones alone -/
def topo (ops : Array Oper) : Bool := (List.range ops.size).all fun i => match ops[i]? with
  | some o => o.after.all fun e => decide (e.on < i)
  | none => true
theorem topo_lt {i : Nat} {o : Oper} (h : topo ops = true) (ho : ops[i]? = some o) : ∀ e ∈ o.after, e.on < i := by
  have hl : i < ops.size := by
    rcases Nat.lt_or_ge i ops.size with hl | hl
    · exact hl
    · rw [Array.getElem?_eq_none hl] at ho; cases ho
  have h1 := List.all_eq_true.1 h i (List.mem_range.2 hl)
  rw [ho] at h1
  simp only at h1
  intro e he
  have := Array.all_eq_true'.1 h1 e he
  simpa using this
theorem all_listed (h : topo ops = true) (listed : Array Bool) (hs : listed.size = ops.size) (hr : Region.ready md ops listed = []) : ∀ n j, j ≤ n → j < ops.size → listed.getD j false = true := by
  intro n
  induction n with
  | zero =>
    intro j hj hjs
    obtain rfl : j = 0 := by omega
    cases hl : listed.getD 0 false with
    | true => rfl
    | false =>
      exfalso
      have ho : ops[0]? = some ops[0] := Array.getElem?_eq_getElem hjs
      have : 0 ∈ Region.ready md ops listed := mem_ready.2 ⟨by
        have hl0 : 0 < listed.size := by omega
        simp [hl0] at hl ⊢; exact hl, _, ho, fun e he => absurd (topo_lt h ho e he) (by omega)⟩
      rw [hr] at this; cases this
  | succ n ih =>
    intro j hj hjs
    cases hl : listed.getD j false with
    | true => rfl
    | false =>
      exfalso
      have ho : ops[j]? = some ops[j] := Array.getElem?_eq_getElem hjs
      have : j ∈ Region.ready md ops listed := mem_ready.2 ⟨by
        have hl0 : j < listed.size := by omega
        simp [hl0] at hl ⊢; exact hl, _, ho, fun e he _ => ih _ (by have := topo_lt h ho e he; omega) (by have := topo_lt h ho e he; omega)⟩
      rw [hr] at this; cases this
/-- WHATEVER ORDER IS PICKED: 'V j' holds of what operation j has left, as soon as it has come up; each operation may lean on those that it waits for. -/
theorem wpAny_left (N : Nat) (V : Nat → Value → World → Prop) (Base : Act → World → Prop) (hown : own ops N = true) (hN : ∀ a w, Base a w → a.tmps.size = N)
    (hstep : ∀ i o, ops[i]? = some o → ∀ a w, Base a w → (∀ e ∈ o.after, Region.binds md e = true → V e.on (left ops a e.on) w) →
      wpOp P ops Q i (fun a' w' => ∃ d v, o.dst = some d ∧ a' = a.put (some d) v ∧ V i v w' ∧ Base a' w' ∧ ∀ j x, V j x w → V j x w') a w)
    (hdone : ∀ a w, Base a w → (∀ j, j < ops.size → V j (left ops a j) w) → Q .normal a w)
    (htopo : topo ops = true) :
    ∀ (fuel : Nat) (listed : Array Bool) (a : Act) (w : World), listed.size = ops.size → unl listed.toList ≤ fuel → Base a w → (∀ j, listed.getD j false = true → V j (left ops a j) w) → wpAny P md ops Q fuel listed a w := by
  intro fuel
  induction fuel with
  | zero =>
    intro listed a w hs hu hb hv
    have hr : Region.ready md ops listed = [] := by
      cases h : Region.ready md ops listed with
      | nil => rfl
      | cons x xs =>
        have := unl_pos _ x (ready_false (md := md) (ops := ops) (listed := listed) (by rw [h]; simp))
        omega
    exact ⟨hr, hdone a w hb fun j hj => hv j (all_listed htopo listed hs hr j j (Nat.le_refl _) hj)⟩
  | succ fuel ih =>
    intro listed a w hs hu hb hv
    refine ⟨fun hr => hdone a w hb fun j hj => hv j (all_listed htopo listed hs hr j j (Nat.le_refl _) hj), fun i hi => ?_⟩
    obtain ⟨hun, o, ho, hafter⟩ := mem_ready.1 hi
    refine wpOp_mono (fun a' w' h => ?_) (hstep i o ho a w hb fun e he hbd => hv _ (hafter e he hbd))
    obtain ⟨d, v, hd, rfl, hV, hB, hkeep⟩ := h
    have hid : (ops[i]?).bind (·.dst) = some d := by rw [ho]; exact hd
    have hf := ready_false hi
    refine ih _ _ _ (by simpa using hs) ?_ hB fun j hj => ?_
    · rw [Array.toList_setIfInBounds]
      have := unl_set _ i hf
      omega
    · by_cases hji : j = i
      · subst hji
        rw [left_same hown hid a (hN a w hb) v]
        exact hV
      · rw [left_other hown hid hji a v]
        exact hkeep j _ (hv j (by rwa [getD_set_ne false (Ne.symm hji)] at hj))
/-- from the region on -/
theorem wp_region_left {id : Nat} {a : Act} {w : World} (hm : P.follows .mixedOrders = true) (N : Nat) (V : Nat → Value → World → Prop) (Base : Act → World → Prop) (hown : own ops N = true) (htopo : topo ops = true) (hN : ∀ a w, Base a w → a.tmps.size = N)
    (hb : Base a w.drew)
    (hstep : ∀ i o, ops[i]? = some o → ∀ a w, Base a w → (∀ e ∈ o.after, Region.binds .any e = true → V e.on (left ops a e.on) w) →
      wpOp P ops Q i (fun a' w' => ∃ d v, o.dst = some d ∧ a' = a.put (some d) v ∧ V i v w' ∧ Base a' w' ∧ ∀ j x, V j x w → V j x w') a w)
    (hdone : ∀ a w, Base a w → (∀ j, j < ops.size → V j (left ops a j) w) → Q .normal a w) : (Code.region id ops true).wp P Q a w :=
  wp_region_any hm (wpAny_left N V Base hown hN hstep hdone htopo ops.size (Array.replicate ops.size false) a _ (by simp)
    (by rw [Array.toList_replicate]; unfold unl; exact Nat.le_trans List.countP_le_length (by simp)) hb (fun j hj => by
      exfalso
      simp [Array.getD] at hj))
end
end Go.Proofs.YtkaigmgnmdhngaaDoor
