/- A region that draws its order, within a fence that lets everything by (a round of a range over a function): XReg's theorems, turned. Of whatever program. -/
import Derived.Test.YtpacjcgpeomnaaaDoorReg
import Derived.OrdersIn
import Derived.RangeFuncCalls
namespace Go.Proofs.YtpacjcgpeomnaaaDoor

section
variable {F : Fence} {n : Nat} {P : Program} {ops : Array Oper} {Q : Exit → Act → World → Prop} {md : Region.Mode}

/-- WHATEVER ORDER IS PICKED: 'V j' holds of what operation j has left, as soon as it has come up; 'U j' holds until then; each operation may lean on those that it waits for; 'R i' is what operation i may do to the world. -/
theorem wpAnyIn_fill3 (a0 : Act) (U : Nat → World → Prop) (V : Nat → Value → World → Prop) (I : World → Prop) (R : Nat → World → World → Prop) (hown : own ops a0.tmps.size = true) (htopo : topo md ops = true)
    (hI : ∀ i w w', R i w w' → I w → I w') (hU : ∀ i j w w', i ≠ j → (∀ o, ops[i]? = some o → ∀ e ∈ o.after, Region.binds md e = true → e.on ≠ j) → I w → U i w → R i w w' → U j w → U j w') (hV : ∀ i j v w w', i ≠ j → I w → U i w → R i w w' → V j v w → V j v w')
    (hstep : ∀ i o, ops[i]? = some o → ∀ a w, Near ops a0 a → I w → U i w → (∀ e ∈ o.after, Region.binds md e = true → V e.on (left ops a e.on) w) →
      wpOpIn F n P ops Q i (fun a' w' => ∃ v, a' = a.put o.dst v ∧ (o.dst = none → v = undef) ∧ V i v w' ∧ R i w w') a w)
    (hdone : ∀ vals w, I w → (∀ j, j < ops.size → V j (vals j) w) → Q .normal (fill ops vals ops.size a0) w) :
    ∀ (fuel : Nat) (listed : Array Bool) (a : Act) (w : World), listed.size = ops.size → unl listed.toList ≤ fuel → Near ops a0 a → I w → (∀ j, listed.toList[j]? = some false → U j w) → (∀ j, listed.getD j false = true → V j (left ops a j) w) → wpAnyIn F n P md ops Q fuel listed a w := by
  intro fuel
  have hend : ∀ a w, Near ops a0 a → I w → (∀ j, j < ops.size → V j (left ops a j) w) → Q .normal a w := fun a w hn hi hv => by
    have := hdone (left ops a) w hi hv
    rwa [← near_fill hn] at this
  induction fuel with
  | zero =>
    intro listed a w hs hu hb hi hun hv
    have hr : Region.ready md ops listed = [] := by
      cases h : Region.ready md ops listed with
      | nil => rfl
      | cons x xs =>
        have := unl_pos _ x (ready_false (md := md) (ops := ops) (listed := listed) (by rw [h]; simp))
        omega
    exact ⟨hr, hend a w hb hi fun j hj => hv j (all_listed htopo listed hs hr j j (Nat.le_refl _) hj)⟩
  | succ fuel ih =>
    intro listed a w hs hu hb hi hun hv
    refine ⟨fun hr => hend a w hb hi fun j hj => hv j (all_listed htopo listed hs hr j j (Nat.le_refl _) hj), fun i him => ?_⟩
    obtain ⟨_, o, ho, hafter⟩ := mem_ready.1 him
    have hf := ready_false him
    have hui := hun i hf
    refine wpOpIn_mono (fun a' w' h => ?_) (hstep i o ho a w hb hi hui fun e he hbd => hv _ (hafter e he hbd))
    obtain ⟨v, rfl, hun', hVi, hRw⟩ := h
    refine ih _ _ _ (by simpa using hs) ?_ (hb.put ho v) (hI _ _ _ hRw hi) (fun j hj => ?_) fun j hj => ?_
    · rw [Array.toList_setIfInBounds]
      have := unl_set _ i hf
      omega
    · rw [Array.toList_setIfInBounds] at hj
      by_cases hji : i = j
      · subst hji
        have hl : i < listed.toList.length := (List.getElem?_eq_some_iff.1 hf).1
        rw [List.getElem?_set_self hl] at hj
        cases hj
      · rw [List.getElem?_set_ne hji] at hj
        refine hU _ _ _ _ hji (fun o' ho' e he hbd hej => ?_) hi hui hRw (hun j hj)
        rw [ho] at ho'
        cases ho'
        have h1 := hafter e he hbd
        rw [hej] at h1
        have h2 : listed.getD j false = false := by
          rw [Array.getElem?_toList] at hj
          rw [Array.getD_eq_getD_getElem?, hj]
          rfl
        rw [h2] at h1
        cases h1
    · by_cases hji : j = i
      · subst hji
        cases hd : o.dst with
        | none =>
          have hid : (ops[j]?).bind (·.dst) = none := by rw [ho]; exact hd
          have e : left ops (a.put none v) j = undef := by unfold left; rw [hid]
          rw [e, ← hun' hd]
          exact hVi
        | some d =>
          have hid : (ops[j]?).bind (·.dst) = some d := by rw [ho]; exact hd
          rw [left_same hown hid a hb.size v]
          exact hVi
      · cases hd : o.dst with
        | none => exact hV _ _ _ _ _ (Ne.symm hji) hi hui hRw (hv j (by rwa [getD_set_ne false (Ne.symm hji)] at hj))
        | some d =>
          have hid : (ops[i]?).bind (·.dst) = some d := by rw [ho]; exact hd
          rw [left_other hown hid hji a v]
          exact hV _ _ _ _ _ (Ne.symm hji) hi hui hRw (hv j (by rwa [getD_set_ne false (Ne.symm hji)] at hj))
/-- from the region on -/
theorem wpIn_region_fill3 {id : Nat} {a0 : Act} {w : World} (hm : P.follows .mixedOrders = true) (U : Nat → World → Prop) (V : Nat → Value → World → Prop) (I : World → Prop) (R : Nat → World → World → Prop) (hown : own ops a0.tmps.size = true) (htopo : topo .any ops = true)
    (h0 : I w.drew) (hu0 : ∀ j, U j w.drew)
    (hI : ∀ i w w', R i w w' → I w → I w') (hU : ∀ i j w w', i ≠ j → (∀ o, ops[i]? = some o → ∀ e ∈ o.after, Region.binds .any e = true → e.on ≠ j) → I w → U i w → R i w w' → U j w → U j w') (hV : ∀ i j v w w', i ≠ j → I w → U i w → R i w w' → V j v w → V j v w')
    (hstep : ∀ i o, ops[i]? = some o → ∀ a w, Near ops a0 a → I w → U i w → (∀ e ∈ o.after, Region.binds .any e = true → V e.on (left ops a e.on) w) →
      wpOpIn F n P ops Q i (fun a' w' => ∃ v, a' = a.put o.dst v ∧ (o.dst = none → v = undef) ∧ V i v w' ∧ R i w w') a w)
    (hdone : ∀ vals w, I w → (∀ j, j < ops.size → V j (vals j) w) → Q .normal (fill ops vals ops.size a0) w) : (Code.region id ops true).wpIn F n P Q a0 w :=
  wpIn_region_any hm (wpAnyIn_fill3 a0 U V I R hown htopo hI hU hV hstep hdone ops.size (Array.replicate ops.size false) a0 _ (by simp)
    (by rw [Array.toList_replicate]; unfold unl; exact Nat.le_trans List.countP_le_length (by simp)) (Near.refl _) h0 (fun j _ => hu0 j) (fun j hj => by
      exfalso
      simp [Array.getD] at hj))
/-- the same, with no word of the order -/
theorem wpIn_region_fill2 {id : Nat} {a0 : Act} {w : World} (hm : P.follows .mixedOrders = true) (U : Nat → World → Prop) (V : Nat → Value → World → Prop) (I : World → Prop) (R : Nat → World → World → Prop) (hown : own ops a0.tmps.size = true) (htopo : topo .any ops = true)
    (h0 : I w.drew) (hu0 : ∀ j, U j w.drew)
    (hI : ∀ i w w', R i w w' → I w → I w') (hU : ∀ i j w w', i ≠ j → I w → U i w → R i w w' → U j w → U j w') (hV : ∀ i j v w w', i ≠ j → I w → U i w → R i w w' → V j v w → V j v w')
    (hstep : ∀ i o, ops[i]? = some o → ∀ a w, Near ops a0 a → I w → U i w → (∀ e ∈ o.after, Region.binds .any e = true → V e.on (left ops a e.on) w) →
      wpOpIn F n P ops Q i (fun a' w' => ∃ v, a' = a.put o.dst v ∧ (o.dst = none → v = undef) ∧ V i v w' ∧ R i w w') a w)
    (hdone : ∀ vals w, I w → (∀ j, j < ops.size → V j (vals j) w) → Q .normal (fill ops vals ops.size a0) w) : (Code.region id ops true).wpIn F n P Q a0 w :=
  wpIn_region_fill3 hm U V I R hown htopo h0 hu0 hI (fun i j w w' hij _ hi hui hr h => hU i j w w' hij hi hui hr h) hV hstep hdone
/-- the same, where an operation may do to the world what any other may -/
theorem wpIn_region_fill {id : Nat} {a0 : Act} {w : World} (hm : P.follows .mixedOrders = true) (V : Nat → Value → World → Prop) (I : World → Prop) (R : World → World → Prop) (hown : own ops a0.tmps.size = true) (htopo : topo .any ops = true)
    (h0 : I w.drew) (hI : ∀ w w', R w w' → I w → I w') (hV : ∀ j v w w', R w w' → V j v w → V j v w')
    (hstep : ∀ i o, ops[i]? = some o → ∀ a w, Near ops a0 a → I w → (∀ e ∈ o.after, Region.binds .any e = true → V e.on (left ops a e.on) w) →
      wpOpIn F n P ops Q i (fun a' w' => ∃ v, a' = a.put o.dst v ∧ (o.dst = none → v = undef) ∧ V i v w' ∧ R w w') a w)
    (hdone : ∀ vals w, I w → (∀ j, j < ops.size → V j (vals j) w) → Q .normal (fill ops vals ops.size a0) w) : (Code.region id ops true).wpIn F n P Q a0 w :=
  wpIn_region_fill2 hm (fun _ _ => True) V I (fun _ => R) hown htopo h0 (fun _ => trivial) (fun _ => hI) (fun _ _ _ _ _ _ _ _ _ => trivial) (fun _ j v w w' _ _ _ hr h => hV j v w w' hr h) (fun i o ho a w hn hi _ h => hstep i o ho a w hn hi h) hdone

/-- a fence that lets all by -/
structure OpenF (F : Fence) : Prop where
  fn : ∀ f, F.fn f
  depth : F.depth = none
  calls : ∀ {n : Nat} {P : Program} {f : FuncId} {args : Array Value} {w : World} {R : Ending → World → Prop}, Calls P f args w R → CallsIn F n P f args w R
theorem openF_wide : OpenF Fence.wide := ⟨fun _ => trivial, rfl, fun h => callsIn_wide.2 h⟩
theorem openF_round (l : Nat) : OpenF (Fence.wide.inRound l) := ⟨fun _ => trivial, rfl, fun h => CallsIn.inRound l (callsIn_wide.2 h)⟩
def noDefer (o : Oper) : Bool := match o.op with | .defer _ => false | _ => true
theorem noDefer_ne {o : Oper} (h : noDefer o = true) : ∀ c, o.op ≠ .defer c := fun c e => by unfold noDefer at h; rw [e] at h; cases h
theorem stepIn_value {i : Nat} {o : Oper} {a : Act} {w w' : World} {K : Act → World → Prop} {v : Value} (hO : OpenF F) (hnd : noDefer o = true) (hi : ops[i]? = some o) (hw : Region.wanted o (yielded ops a.tmps) = true)
    (hr : (execOp a.eval o).run P w = .ok (.value v) w') (hK : K (a.put o.dst v) w') : wpOpIn F n P ops Q i K a w := by
  unfold Go.wpOpIn
  simp only [hi, hw, if_true, Oper.wpIn, Oper.semAt_eq _ _ _ (noDefer_ne hnd), hr, Oper.uponIn]
  exact ⟨fun f _ => hO.fn f, hK⟩
theorem stepIn_enter {i : Nat} {o : Oper} {a : Act} {w : World} {K : Act → World → Prop} {f : FuncId} {args : Array Value} {S : Ending → World → Prop} (hO : OpenF F) (hnd : noDefer o = true) (hi : ops[i]? = some o) (hw : Region.wanted o (yielded ops a.tmps) = true)
    (hr : (execOp a.eval o).run P w = .ok (.enter f args) w) (hc : Calls P f args w S) (hS : ∀ e w', S e w' → ∃ v, e = .returned v ∧ K (a.put o.dst v) w') : wpOpIn F n P ops Q i K a w := by
  unfold Go.wpOpIn
  simp only [hi, hw, if_true, Oper.wpIn, Oper.semAt_eq _ _ _ (noDefer_ne hnd), hr, Oper.uponIn]
  refine ⟨fun f _ => hO.fn f, ⟨fun h => (by rw [hO.depth] at h; cases h), (hO.calls hc).mono fun e w' he => ?_⟩⟩
  obtain ⟨v, rfl, hk⟩ := hS e w' he
  exact hk
theorem stepIn_skip {i : Nat} {o : Oper} {a : Act} {w : World} {K : Act → World → Prop} (hO : OpenF F) (hi : ops[i]? = some o) (hw : Region.wanted o (yielded ops a.tmps) = false) (hK : K (a.put o.dst undef) w) : wpOpIn F n P ops Q i K a w := by
  unfold Go.wpOpIn
  simp only [hi, hw]
  exact ⟨fun f _ => hO.fn f, hK⟩
theorem fillIn_value {V : Nat → Value → World → Prop} {R : World → World → Prop} {i d : Nat} {o : Oper} {a : Act} {w w' : World} {v : Value} (hO : OpenF F) (hnd : noDefer o = true) (hi : ops[i]? = some o) (hd : o.dst = some d) (hw : Region.wanted o (yielded ops a.tmps) = true)
    (hr : (execOp a.eval o).run P w = .ok (.value v) w') (hV : V i v w') (hR : R w w') : wpOpIn F n P ops Q i (fun a' w' => ∃ v, a' = a.put o.dst v ∧ (o.dst = none → v = undef) ∧ V i v w' ∧ R w w') a w :=
  stepIn_value hO hnd hi hw hr ⟨v, rfl, fun hq => by (rw [hd] at hq; cases hq), hV, hR⟩
theorem fillIn_enter {V : Nat → Value → World → Prop} {R : World → World → Prop} {i d : Nat} {o : Oper} {a : Act} {w : World} {f : FuncId} {args : Array Value} {S : Ending → World → Prop} (hO : OpenF F) (hnd : noDefer o = true) (hi : ops[i]? = some o) (hd : o.dst = some d) (hw : Region.wanted o (yielded ops a.tmps) = true)
    (hr : (execOp a.eval o).run P w = .ok (.enter f args) w) (hc : Calls P f args w S) (hS : ∀ e w', S e w' → ∃ v, e = .returned v ∧ V i v w' ∧ R w w') : wpOpIn F n P ops Q i (fun a' w' => ∃ v, a' = a.put o.dst v ∧ (o.dst = none → v = undef) ∧ V i v w' ∧ R w w') a w :=
  stepIn_enter hO hnd hi hw hr hc fun e w' he => by
    obtain ⟨v, h1, h2, h3⟩ := hS e w' he
    exact ⟨v, h1, v, rfl, fun hq => by (rw [hd] at hq; cases hq), h2, h3⟩
theorem fillIn_done {V : Nat → Value → World → Prop} {R : World → World → Prop} {i : Nat} {o : Oper} {a : Act} {w w' : World} (hO : OpenF F) (hnd : noDefer o = true) (hi : ops[i]? = some o) (_hd : o.dst = none) (hw : Region.wanted o (yielded ops a.tmps) = true)
    (hr : (execOp a.eval o).run P w = .ok .skip w') (hV : V i undef w') (hR : R w w') : wpOpIn F n P ops Q i (fun a' w' => ∃ v, a' = a.put o.dst v ∧ (o.dst = none → v = undef) ∧ V i v w' ∧ R w w') a w := by
  unfold Go.wpOpIn
  simp only [hi, hw, if_true, Oper.wpIn, Oper.semAt_eq _ _ _ (noDefer_ne hnd), hr, Oper.uponIn]
  exact ⟨fun f _ => hO.fn f, undef, rfl, fun _ => rfl, hV, hR⟩
end
end Go.Proofs.YtpacjcgpeomnaaaDoor
