/- A region that draws its order, by what each of its operations leaves: whatever order is picked, the frame behind it is one. Of whatever program. -/
import Derived.Test.YtpacjcgpeomnaaaDoorRows
import Derived.Orders
import Derived.WalkKit
import Derived.Below
namespace Go.Proofs.YtpacjcgpeomnaaaDoor

section
variable {P : Program} {ops : Array Oper} {Q : Exit → Act → World → Prop} {md : Region.Mode}

/-- how many have not come up -/
def unl (l : List Bool) : Nat := l.countP fun b => !b
theorem unl_set : ∀ (l : List Bool) (i : Nat), l[i]? = some false → unl (l.set i true) + 1 = unl l
  | [], _, h => by simp at h
  | b :: t, 0, h => by
    simp at h; subst h
    simp [unl]
  | b :: t, i + 1, h => by
    have ih := unl_set t i (by simpa using h)
    unfold unl at *
    simp only [List.set_cons_succ, List.countP_cons]
    omega
theorem unl_pos : ∀ (l : List Bool) (i : Nat), l[i]? = some false → 0 < unl l := fun l i h => by have := unl_set l i h; omega
theorem ready_false {i : Nat} {listed : Array Bool} (h : i ∈ Region.ready md ops listed) : listed.toList[i]? = some false := by
  have h1 := (mem_ready.1 h).1
  rcases Nat.lt_or_ge i listed.size with hl | hl
  · simp [hl] at h1 ⊢; exact h1
  · have hl' : ¬ i < listed.size := by omega
    simp [hl'] at h1
/-- what operation j has left -/
def left (ops : Array Oper) (a : Act) (j : Nat) : Value :=
  match (ops[j]?).bind (·.dst) with
  | some d => a.tmps.getD d undef
  | none => undef
/-- the operations leave each in a place of its own, within the frame -/
def own (ops : Array Oper) (N : Nat) : Bool :=
  (List.range ops.size).all fun i => match (ops[i]?).bind (·.dst) with
    | some d => decide (d < N) && (List.range ops.size).all fun j => i == j || (ops[j]?).bind (·.dst) != some d
    | none => true
theorem own_lt {N i d : Nat} (h : own ops N = true) (hi : (ops[i]?).bind (·.dst) = some d) : d < N ∧ ∀ j, j ≠ i → (ops[j]?).bind (·.dst) ≠ some d := by
  have hl : i < ops.size := by
    rcases Nat.lt_or_ge i ops.size with hl | hl
    · exact hl
    · rw [Array.getElem?_eq_none hl] at hi; cases hi
  have h1 := List.all_eq_true.1 h i (List.mem_range.2 hl)
  rw [hi] at h1
  simp only [Bool.and_eq_true, decide_eq_true_eq] at h1
  refine ⟨h1.1, fun j hj hjd => ?_⟩
  have hlj : j < ops.size := by
    rcases Nat.lt_or_ge j ops.size with hl | hl
    · exact hl
    · rw [Array.getElem?_eq_none hl] at hjd; cases hjd
  have h2 := List.all_eq_true.1 h1.2 j (List.mem_range.2 hlj)
  rw [hjd] at h2
  simp at h2
  exact hj h2.symm
theorem left_same {N i d : Nat} (h : own ops N = true) (hi : (ops[i]?).bind (·.dst) = some d) (a : Act) (ha : a.tmps.size = N) (v : Value) : left ops (a.put (some d) v) i = v := by
  unfold left
  rw [hi]
  have := (own_lt h hi).1
  simp [Act.put, Array.getD, ha, this]
theorem left_other {N i j d : Nat} (h : own ops N = true) (hi : (ops[i]?).bind (·.dst) = some d) (hj : j ≠ i) (a : Act) (v : Value) : left ops (a.put (some d) v) j = left ops a j := by
  unfold left
  cases hjd : (ops[j]?).bind (·.dst) with
  | none => rfl
  | some e =>
    have hne : e ≠ d := fun he => (own_lt h hi).2 j hj (by rw [hjd, he])
    simp only [Act.put, Array.getD_eq_getD_getElem?]
    rw [Array.getElem?_setIfInBounds_ne (Ne.symm hne)]
/-- each waits for earlier ones alone -/
def topo (md : Region.Mode) (ops : Array Oper) : Bool := (List.range ops.size).all fun i => match ops[i]? with
  | some o => o.after.all fun e => !(Region.binds md e) || decide (e.on < i)
  | none => true
theorem topo_lt {i : Nat} {o : Oper} (h : topo md ops = true) (ho : ops[i]? = some o) : ∀ e ∈ o.after, Region.binds md e = true → e.on < i := by
  have hl : i < ops.size := by
    rcases Nat.lt_or_ge i ops.size with hl | hl
    · exact hl
    · rw [Array.getElem?_eq_none hl] at ho; cases ho
  have h1 := List.all_eq_true.1 h i (List.mem_range.2 hl)
  rw [ho] at h1
  simp only at h1
  intro e he hb
  have := Array.all_eq_true'.1 h1 e he
  rw [hb] at this
  simpa using this
theorem all_listed (h : topo md ops = true) (listed : Array Bool) (hs : listed.size = ops.size) (hr : Region.ready md ops listed = []) : ∀ n j, j ≤ n → j < ops.size → listed.getD j false = true := by
  intro n
  induction n with
  | zero =>
    intro j hj hjs
    obtain rfl : j = 0 := by omega
    cases hl : listed.getD 0 false with
    | true => rfl
    | false =>
      exfalso
      have ho : ops[0]? = some ops[0] := Array.getElem?_eq_getElem hjs
      have : 0 ∈ Region.ready md ops listed := mem_ready.2 ⟨by
        have hl0 : 0 < listed.size := by omega
        simp [hl0] at hl ⊢; exact hl, _, ho, fun e he hb => absurd (topo_lt h ho e he hb) (by omega)⟩
      rw [hr] at this; cases this
  | succ n ih =>
    intro j hj hjs
    cases hl : listed.getD j false with
    | true => rfl
    | false =>
      exfalso
      have ho : ops[j]? = some ops[j] := Array.getElem?_eq_getElem hjs
      have : j ∈ Region.ready md ops listed := mem_ready.2 ⟨by
        have hl0 : j < listed.size := by omega
        simp [hl0] at hl ⊢; exact hl, _, ho, fun e he hb => ih _ (by have := topo_lt h ho e he hb; omega) (by have := topo_lt h ho e he hb; omega)⟩
      rw [hr] at this; cases this
/-- the frame behind the first n operations -/
def fill (ops : Array Oper) (vals : Nat → Value) : Nat → Act → Act
  | 0, a => a
  | n + 1, a => (fill ops vals n a).put ((ops[n]?).bind (·.dst)) (vals n)
def notDst (ops : Array Oper) (t : Nat) : Bool := (List.range ops.size).all fun j => (ops[j]?).bind (·.dst) != some t
theorem notDst_ne {t : Nat} (h : notDst ops t = true) (j : Nat) : (ops[j]?).bind (·.dst) ≠ some t := by
  intro e
  have hl : j < ops.size := by
    rcases Nat.lt_or_ge j ops.size with hl | hl
    · exact hl
    · rw [Array.getElem?_eq_none hl] at e; cases e
  have := List.all_eq_true.1 h j (List.mem_range.2 hl)
  rw [e] at this
  simp at this
/-- a frame that parts from another in what the operations leave alone -/
structure Near (ops : Array Oper) (a0 a : Act) : Prop where
  defers : a.defers = a0.defers
  size : a.tmps.size = a0.tmps.size
  same : ∀ t, (∀ j : Nat, (ops[j]?).bind (·.dst) ≠ some t) → a.tmps.getD t undef = a0.tmps.getD t undef
theorem Near.refl (a : Act) : Near ops a a := ⟨rfl, rfl, fun _ _ => rfl⟩
theorem Near.eval {a0 a : Act} (h : Near ops a0 a) (t : Nat) (ht : notDst ops t = true) : a.eval (.tmp t) = a0.eval (.tmp t) := h.same t (notDst_ne ht)
theorem Near.put {a0 a : Act} (h : Near ops a0 a) {i : Nat} {o : Oper} (ho : ops[i]? = some o) (v : Value) : Near ops a0 (a.put o.dst v) := by
  cases hd : o.dst with
  | none => exact h
  | some d =>
    refine ⟨h.defers, by simpa [Act.put] using h.size, fun t ht => ?_⟩
    have hne : d ≠ t := fun e => ht i (by rw [ho, ← e]; exact hd)
    rw [← h.same t ht]
    simp only [Act.put, Array.getD_eq_getD_getElem?]
    rw [Array.getElem?_setIfInBounds_ne hne]
theorem act_ext {a b : Act} (h1 : a.defers = b.defers) (h2 : a.tmps.size = b.tmps.size) (h3 : ∀ t, t < b.tmps.size → a.tmps.getD t undef = b.tmps.getD t undef) : a = b := by
  obtain ⟨ta, da⟩ := a
  obtain ⟨tb, db⟩ := b
  simp only at h1 h2 h3
  subst h1
  congr 1
  apply Array.ext h2
  intro i hi1 hi2
  have := h3 i hi2
  simpa [Array.getD, hi1, hi2] using this
theorem fill_size (vals : Nat → Value) (a : Act) : ∀ n, (fill ops vals n a).tmps.size = a.tmps.size
  | 0 => rfl
  | n + 1 => by
    have ih := fill_size vals a n
    unfold fill
    cases (ops[n]?).bind (·.dst) with
    | none => exact ih
    | some d => simpa [Act.put] using ih
theorem fill_defers (vals : Nat → Value) (a : Act) : ∀ n, (fill ops vals n a).defers = a.defers
  | 0 => rfl
  | n + 1 => by
    have ih := fill_defers vals a n
    unfold fill
    cases (ops[n]?).bind (·.dst) with
    | none => exact ih
    | some d => exact ih
/-- what is near is filled -/
theorem near_fill {a0 a : Act} (h : Near ops a0 a) : a = fill ops (left ops a) ops.size a0 := by
  have key : ∀ n t, t < a0.tmps.size → ((∃ j : Nat, j < n ∧ (ops[j]?).bind (·.dst) = some t) → (fill ops (left ops a) n a0).tmps.getD t undef = a.tmps.getD t undef) ∧ ((∀ j : Nat, j < n → (ops[j]?).bind (·.dst) ≠ some t) → (fill ops (left ops a) n a0).tmps.getD t undef = a0.tmps.getD t undef) := by
    intro n t ht
    induction n with
    | zero => exact ⟨fun ⟨j, hj, _⟩ => absurd hj (by omega), fun _ => rfl⟩
    | succ n ih =>
      have hsz := fill_size (ops := ops) (left ops a) a0 n
      unfold fill
      cases hd : (ops[n]?).bind (·.dst) with
      | none =>
        refine ⟨fun ⟨j, hj, e⟩ => ih.1 ⟨j, ?_, e⟩, fun hx => ih.2 fun j hj => hx j (by omega)⟩
        rcases Nat.lt_or_ge j n with hl | hl
        · exact hl
        · obtain rfl : j = n := by omega
          rw [hd] at e; cases e
      | some d =>
        by_cases e : d = t
        · subst e
          refine ⟨fun _ => ?_, fun hx => absurd hd (hx n (Nat.lt_succ_self n))⟩
          have hl : left ops a n = a.tmps.getD d undef := by unfold left; rw [hd]
          rw [hl]
          simp [Act.put, Array.getD, hsz, ht]
        · have hp : ((fill ops (left ops a) n a0).put (some d) (left ops a n)).tmps.getD t undef = (fill ops (left ops a) n a0).tmps.getD t undef := by
            simp only [Act.put, Array.getD_eq_getD_getElem?]
            rw [Array.getElem?_setIfInBounds_ne e]
          rw [hp]
          refine ⟨fun ⟨j, hj, e2⟩ => ih.1 ⟨j, ?_, e2⟩, fun hx => ih.2 fun j hj => hx j (by omega)⟩
          rcases Nat.lt_or_ge j n with hl | hl
          · exact hl
          · obtain rfl : j = n := by omega
            rw [hd] at e2; cases e2; exact absurd rfl e
  refine act_ext (by rw [fill_defers]; exact h.defers) (by rw [fill_size]; exact h.size) fun t ht => ?_
  rw [fill_size] at ht
  obtain ⟨k1, k2⟩ := key ops.size t ht
  by_cases hx : ∃ j : Nat, j < ops.size ∧ (ops[j]?).bind (·.dst) = some t
  · exact (k1 hx).symm
  · have hx' : ∀ j : Nat, (ops[j]?).bind (·.dst) ≠ some t := fun j e => hx ⟨j, (by
      rcases Nat.lt_or_ge j ops.size with hl | hl
      · exact hl
      · rw [Array.getElem?_eq_none hl] at e; cases e), e⟩
    rw [k2 fun j _ => hx' j, h.same t hx']
/-- WHATEVER ORDER IS PICKED: 'V j' holds of what operation j has left, as soon as it has come up; 'U j' holds until then; each operation may lean on those that it waits for; 'R i' is what operation i may do to the world. -/
theorem wpAny_fill3 (a0 : Act) (U : Nat → World → Prop) (V : Nat → Value → World → Prop) (I : World → Prop) (R : Nat → World → World → Prop) (hown : own ops a0.tmps.size = true) (htopo : topo md ops = true)
    (hI : ∀ i w w', R i w w' → I w → I w') (hU : ∀ i j w w', i ≠ j → (∀ o, ops[i]? = some o → ∀ e ∈ o.after, Region.binds md e = true → e.on ≠ j) → I w → U i w → R i w w' → U j w → U j w') (hV : ∀ i j v w w', i ≠ j → I w → U i w → R i w w' → V j v w → V j v w')
    (hstep : ∀ i o, ops[i]? = some o → ∀ a w, Near ops a0 a → I w → U i w → (∀ e ∈ o.after, Region.binds md e = true → V e.on (left ops a e.on) w) →
      wpOp P ops Q i (fun a' w' => ∃ v, a' = a.put o.dst v ∧ (o.dst = none → v = undef) ∧ V i v w' ∧ R i w w') a w)
    (hdone : ∀ vals w, I w → (∀ j, j < ops.size → V j (vals j) w) → Q .normal (fill ops vals ops.size a0) w) :
    ∀ (fuel : Nat) (listed : Array Bool) (a : Act) (w : World), listed.size = ops.size → unl listed.toList ≤ fuel → Near ops a0 a → I w → (∀ j, listed.toList[j]? = some false → U j w) → (∀ j, listed.getD j false = true → V j (left ops a j) w) → wpAny P md ops Q fuel listed a w := by
  intro fuel
  have hend : ∀ a w, Near ops a0 a → I w → (∀ j, j < ops.size → V j (left ops a j) w) → Q .normal a w := fun a w hn hi hv => by
    have := hdone (left ops a) w hi hv
    rwa [← near_fill hn] at this
  induction fuel with
  | zero =>
    intro listed a w hs hu hb hi hun hv
    have hr : Region.ready md ops listed = [] := by
      cases h : Region.ready md ops listed with
      | nil => rfl
      | cons x xs =>
        have := unl_pos _ x (ready_false (md := md) (ops := ops) (listed := listed) (by rw [h]; simp))
        omega
    exact ⟨hr, hend a w hb hi fun j hj => hv j (all_listed htopo listed hs hr j j (Nat.le_refl _) hj)⟩
  | succ fuel ih =>
    intro listed a w hs hu hb hi hun hv
    refine ⟨fun hr => hend a w hb hi fun j hj => hv j (all_listed htopo listed hs hr j j (Nat.le_refl _) hj), fun i him => ?_⟩
    obtain ⟨_, o, ho, hafter⟩ := mem_ready.1 him
    have hf := ready_false him
    have hui := hun i hf
    refine wpOp_mono (fun a' w' h => ?_) (hstep i o ho a w hb hi hui fun e he hbd => hv _ (hafter e he hbd))
    obtain ⟨v, rfl, hun', hVi, hRw⟩ := h
    refine ih _ _ _ (by simpa using hs) ?_ (hb.put ho v) (hI _ _ _ hRw hi) (fun j hj => ?_) fun j hj => ?_
    · rw [Array.toList_setIfInBounds]
      have := unl_set _ i hf
      omega
    · rw [Array.toList_setIfInBounds] at hj
      by_cases hji : i = j
      · subst hji
        have hl : i < listed.toList.length := (List.getElem?_eq_some_iff.1 hf).1
        rw [List.getElem?_set_self hl] at hj
        cases hj
      · rw [List.getElem?_set_ne hji] at hj
        refine hU _ _ _ _ hji (fun o' ho' e he hbd hej => ?_) hi hui hRw (hun j hj)
        rw [ho] at ho'
        cases ho'
        have h1 := hafter e he hbd
        rw [hej] at h1
        have h2 : listed.getD j false = false := by
          rw [Array.getElem?_toList] at hj
          rw [Array.getD_eq_getD_getElem?, hj]
          rfl
        rw [h2] at h1
        cases h1
    · by_cases hji : j = i
      · subst hji
        cases hd : o.dst with
        | none =>
          have hid : (ops[j]?).bind (·.dst) = none := by rw [ho]; exact hd
          have e : left ops (a.put none v) j = undef := by unfold left; rw [hid]
          rw [e, ← hun' hd]
          exact hVi
        | some d =>
          have hid : (ops[j]?).bind (·.dst) = some d := by rw [ho]; exact hd
          rw [left_same hown hid a hb.size v]
          exact hVi
      · cases hd : o.dst with
        | none => exact hV _ _ _ _ _ (Ne.symm hji) hi hui hRw (hv j (by rwa [getD_set_ne false (Ne.symm hji)] at hj))
        | some d =>
          have hid : (ops[i]?).bind (·.dst) = some d := by rw [ho]; exact hd
          rw [left_other hown hid hji a v]
          exact hV _ _ _ _ _ (Ne.symm hji) hi hui hRw (hv j (by rwa [getD_set_ne false (Ne.symm hji)] at hj))
/-- from the region on -/
theorem wp_region_fill3 {id : Nat} {a0 : Act} {w : World} (hm : P.follows .mixedOrders = true) (U : Nat → World → Prop) (V : Nat → Value → World → Prop) (I : World → Prop) (R : Nat → World → World → Prop) (hown : own ops a0.tmps.size = true) (htopo : topo .any ops = true)
    (h0 : I w.drew) (hu0 : ∀ j, U j w.drew)
    (hI : ∀ i w w', R i w w' → I w → I w') (hU : ∀ i j w w', i ≠ j → (∀ o, ops[i]? = some o → ∀ e ∈ o.after, Region.binds .any e = true → e.on ≠ j) → I w → U i w → R i w w' → U j w → U j w') (hV : ∀ i j v w w', i ≠ j → I w → U i w → R i w w' → V j v w → V j v w')
    (hstep : ∀ i o, ops[i]? = some o → ∀ a w, Near ops a0 a → I w → U i w → (∀ e ∈ o.after, Region.binds .any e = true → V e.on (left ops a e.on) w) →
      wpOp P ops Q i (fun a' w' => ∃ v, a' = a.put o.dst v ∧ (o.dst = none → v = undef) ∧ V i v w' ∧ R i w w') a w)
    (hdone : ∀ vals w, I w → (∀ j, j < ops.size → V j (vals j) w) → Q .normal (fill ops vals ops.size a0) w) : (Code.region id ops true).wp P Q a0 w :=
  wp_region_any hm (wpAny_fill3 a0 U V I R hown htopo hI hU hV hstep hdone ops.size (Array.replicate ops.size false) a0 _ (by simp)
    (by rw [Array.toList_replicate]; unfold unl; exact Nat.le_trans List.countP_le_length (by simp)) (Near.refl _) h0 (fun j _ => hu0 j) (fun j hj => by
      exfalso
      simp [Array.getD] at hj))
/-- the same, with no word of the order -/
theorem wp_region_fill2 {id : Nat} {a0 : Act} {w : World} (hm : P.follows .mixedOrders = true) (U : Nat → World → Prop) (V : Nat → Value → World → Prop) (I : World → Prop) (R : Nat → World → World → Prop) (hown : own ops a0.tmps.size = true) (htopo : topo .any ops = true)
    (h0 : I w.drew) (hu0 : ∀ j, U j w.drew)
    (hI : ∀ i w w', R i w w' → I w → I w') (hU : ∀ i j w w', i ≠ j → I w → U i w → R i w w' → U j w → U j w') (hV : ∀ i j v w w', i ≠ j → I w → U i w → R i w w' → V j v w → V j v w')
    (hstep : ∀ i o, ops[i]? = some o → ∀ a w, Near ops a0 a → I w → U i w → (∀ e ∈ o.after, Region.binds .any e = true → V e.on (left ops a e.on) w) →
      wpOp P ops Q i (fun a' w' => ∃ v, a' = a.put o.dst v ∧ (o.dst = none → v = undef) ∧ V i v w' ∧ R i w w') a w)
    (hdone : ∀ vals w, I w → (∀ j, j < ops.size → V j (vals j) w) → Q .normal (fill ops vals ops.size a0) w) : (Code.region id ops true).wp P Q a0 w :=
  wp_region_fill3 hm U V I R hown htopo h0 hu0 hI (fun i j w w' hij _ hi hui hr h => hU i j w w' hij hi hui hr h) hV hstep hdone
/-- the same, where an operation may do to the world what any other may -/
theorem wp_region_fill {id : Nat} {a0 : Act} {w : World} (hm : P.follows .mixedOrders = true) (V : Nat → Value → World → Prop) (I : World → Prop) (R : World → World → Prop) (hown : own ops a0.tmps.size = true) (htopo : topo .any ops = true)
    (h0 : I w.drew) (hI : ∀ w w', R w w' → I w → I w') (hV : ∀ j v w w', R w w' → V j v w → V j v w')
    (hstep : ∀ i o, ops[i]? = some o → ∀ a w, Near ops a0 a → I w → (∀ e ∈ o.after, Region.binds .any e = true → V e.on (left ops a e.on) w) →
      wpOp P ops Q i (fun a' w' => ∃ v, a' = a.put o.dst v ∧ (o.dst = none → v = undef) ∧ V i v w' ∧ R w w') a w)
    (hdone : ∀ vals w, I w → (∀ j, j < ops.size → V j (vals j) w) → Q .normal (fill ops vals ops.size a0) w) : (Code.region id ops true).wp P Q a0 w :=
  wp_region_fill2 hm (fun _ _ => True) V I (fun _ => R) hown htopo h0 (fun _ => trivial) (fun _ => hI) (fun _ _ _ _ _ _ _ _ _ => trivial) (fun _ j v w w' _ _ _ hr h => hV j v w w' hr h) (fun i o ho a w hn hi _ h => hstep i o ho a w hn hi h) hdone

theorem step_value {i : Nat} {o : Oper} {a : Act} {w w' : World} {K : Act → World → Prop} {v : Value} (hi : ops[i]? = some o) (hw : Region.wanted o (yielded ops a.tmps) = true)
    (hr : (execOp a.eval o).run P w = .ok (.value v) w') (hK : K (a.put o.dst v) w') : wpOp P ops Q i K a w := by
  unfold Go.wpOp
  simp only [hi, hw, if_true, Oper.wp, hr, Oper.upon]
  exact .inl hK
theorem step_enter {i : Nat} {o : Oper} {a : Act} {w : World} {K : Act → World → Prop} {f : FuncId} {args : Array Value} {S : Ending → World → Prop} (hi : ops[i]? = some o) (hw : Region.wanted o (yielded ops a.tmps) = true)
    (hr : (execOp a.eval o).run P w = .ok (.enter f args) w) (hc : Calls P f args w S) (hS : ∀ e w', S e w' → ∃ v, e = .returned v ∧ K (a.put o.dst v) w') : wpOp P ops Q i K a w := by
  unfold Go.wpOp
  simp only [hi, hw, if_true, Oper.wp, hr, Oper.upon]
  refine .inl (hc.mono fun e w' he => ?_)
  obtain ⟨v, rfl, hk⟩ := hS e w' he
  exact hk
theorem step_skip {i : Nat} {o : Oper} {a : Act} {w : World} {K : Act → World → Prop} (hi : ops[i]? = some o) (hw : Region.wanted o (yielded ops a.tmps) = false) (hK : K (a.put o.dst undef) w) : wpOp P ops Q i K a w := by
  unfold Go.wpOp
  simp only [hi, hw]
  exact hK
/-- the same, as the region's theorem asks for them -/
theorem fill_value {V : Nat → Value → World → Prop} {R : World → World → Prop} {i d : Nat} {o : Oper} {a : Act} {w w' : World} {v : Value} (hi : ops[i]? = some o) (hd : o.dst = some d) (hw : Region.wanted o (yielded ops a.tmps) = true)
    (hr : (execOp a.eval o).run P w = .ok (.value v) w') (hV : V i v w') (hR : R w w') : wpOp P ops Q i (fun a' w' => ∃ v, a' = a.put o.dst v ∧ (o.dst = none → v = undef) ∧ V i v w' ∧ R w w') a w :=
  step_value hi hw hr ⟨v, rfl, fun hq => by (rw [hd] at hq; cases hq), hV, hR⟩
theorem fill_done {V : Nat → Value → World → Prop} {R : World → World → Prop} {i : Nat} {o : Oper} {a : Act} {w w' : World} (hi : ops[i]? = some o) (_hd : o.dst = none) (hw : Region.wanted o (yielded ops a.tmps) = true)
    (hr : (execOp a.eval o).run P w = .ok .skip w') (hV : V i undef w') (hR : R w w') : wpOp P ops Q i (fun a' w' => ∃ v, a' = a.put o.dst v ∧ (o.dst = none → v = undef) ∧ V i v w' ∧ R w w') a w := by
  unfold Go.wpOp
  simp only [hi, hw, if_true, Oper.wp, hr, Oper.upon]
  exact .inl ⟨undef, rfl, fun _ => rfl, hV, hR⟩
theorem fill_enter {V : Nat → Value → World → Prop} {R : World → World → Prop} {i d : Nat} {o : Oper} {a : Act} {w : World} {f : FuncId} {args : Array Value} {S : Ending → World → Prop} (hi : ops[i]? = some o) (hd : o.dst = some d) (hw : Region.wanted o (yielded ops a.tmps) = true)
    (hr : (execOp a.eval o).run P w = .ok (.enter f args) w) (hc : Calls P f args w S) (hS : ∀ e w', S e w' → ∃ v, e = .returned v ∧ V i v w' ∧ R w w') : wpOp P ops Q i (fun a' w' => ∃ v, a' = a.put o.dst v ∧ (o.dst = none → v = undef) ∧ V i v w' ∧ R w w') a w :=
  step_enter hi hw hr hc fun e w' he => by
    obtain ⟨v, h1, h2, h3⟩ := hS e w' he
    exact ⟨v, h1, v, rfl, fun hq => by (rw [hd] at hq; cases hq), h2, h3⟩
theorem fill_skip {V : Nat → Value → World → Prop} {R : World → World → Prop} {i : Nat} {o : Oper} {a : Act} {w : World} (hi : ops[i]? = some o) (hw : Region.wanted o (yielded ops a.tmps) = false) (hV : V i undef w) (hR : R w w) : wpOp P ops Q i (fun a' w' => ∃ v, a' = a.put o.dst v ∧ (o.dst = none → v = undef) ∧ V i v w' ∧ R w w') a w :=
  step_skip hi hw ⟨undef, rfl, fun _ => rfl, hV, hR⟩
theorem guard_is {k d : Nat} {b : Bool} {o : Oper} {a : Act} (c : Bool) (hg : o.guard = some (k, c)) (hd : (ops[k]?).bind (·.dst) = some d) (h : a.eval (.tmp d) = .bool b) : Region.wanted o (yielded ops a.tmps) = (b == c) := by
  have h3 : a.tmps.getD d undef = .bool b := h
  have h2 : a.tmps[d]? = some (.bool b) := by
    rw [Array.getD_eq_getD_getElem?] at h3
    cases h4 : a.tmps[d]? with
    | none => rw [h4] at h3; cases h3
    | some x => rw [h4] at h3; simpa using h3
  simp [Region.wanted, hg, yielded, hd, h2]
end
end Go.Proofs.YtpacjcgpeomnaaaDoor
