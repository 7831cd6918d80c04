/- A region that draws its order: with the word of what must have come ahead, at whatever distance. Of whatever program. -/
import Derived.Test.YtpacjcgpeomnaaaDoorReg
namespace Go.Proofs.YtpacjcgpeomnaaaDoor

section
variable {P : Program} {ops : Array Oper} {Q : Exit → Act → World → Prop} {md : Region.Mode}
/-- must j have come ahead of i? -/
def anc (md : Region.Mode) (ops : Array Oper) : Nat → Nat → Nat → Bool
  | 0, _, _ => false
  | f + 1, i, j => match ops[i]? with
    | some o => o.after.any fun e => Region.binds md e && (e.on == j || anc md ops f e.on j)
    | none => false
theorem anc_listed {listed : Array Bool} {j : Nat} (hcl : ∀ j, listed.getD j false = true → ∀ o, ops[j]? = some o → ∀ e ∈ o.after, Region.binds md e = true → listed.getD e.on false = true) : ∀ f i o, ops[i]? = some o → (∀ e ∈ o.after, Region.binds md e = true → listed.getD e.on false = true) → anc md ops f i j = true → listed.getD j false = true
  | 0, _, _, _, _, h => by cases h
  | f + 1, i, o, ho, hl, h => by
    unfold anc at h
    rw [ho] at h
    simp only at h
    obtain ⟨e, he, hx⟩ := Array.any_eq_true'.1 h
    simp only [Bool.and_eq_true, Bool.or_eq_true, beq_iff_eq] at hx
    have h1 := hl e he hx.1
    rcases hx.2 with h2 | h2
    · rw [← h2]; exact h1
    · cases ho2 : ops[e.on]? with
      | some o2 => exact anc_listed hcl f e.on o2 ho2 (hcl e.on h1 o2 ho2) h2
      | none =>
        cases f with
        | zero => cases h2
        | succ f => unfold anc at h2; rw [ho2] at h2; cases h2
theorem wpAny_fill4 (a0 : Act) (U : Nat → World → Prop) (V : Nat → Value → World → Prop) (I : World → Prop) (R : Nat → World → World → Prop) (hown : own ops a0.tmps.size = true) (htopo : topo md ops = true)
    (hI : ∀ i w w', R i w w' → I w → I w') (hU : ∀ i j w w', i ≠ j → anc md ops ops.size i j = false → I w → U i w → R i w w' → U j w → U j w') (hV : ∀ i j v w w', i ≠ j → anc md ops ops.size j i = false → I w → U i w → R i w w' → V j v w → V j v w')
    (hstep : ∀ i o, ops[i]? = some o → ∀ a w, Near ops a0 a → I w → U i w → (∀ e ∈ o.after, Region.binds md e = true → V e.on (left ops a e.on) w) →
      wpOp P ops Q i (fun a' w' => ∃ v, a' = a.put o.dst v ∧ (o.dst = none → v = undef) ∧ V i v w' ∧ R i w w') a w)
    (hdone : ∀ vals w, I w → (∀ j, j < ops.size → V j (vals j) w) → Q .normal (fill ops vals ops.size a0) w) :
    ∀ (fuel : Nat) (listed : Array Bool) (a : Act) (w : World), listed.size = ops.size → unl listed.toList ≤ fuel → Near ops a0 a → I w → (∀ j, listed.toList[j]? = some false → U j w) → (∀ j, listed.getD j false = true → V j (left ops a j) w) → (∀ j, listed.getD j false = true → ∀ o, ops[j]? = some o → ∀ e ∈ o.after, Region.binds md e = true → listed.getD e.on false = true) → wpAny P md ops Q fuel listed a w := by
  intro fuel
  have hend : ∀ a w, Near ops a0 a → I w → (∀ j, j < ops.size → V j (left ops a j) w) → Q .normal a w := fun a w hn hi hv => by
    have := hdone (left ops a) w hi hv
    rwa [← near_fill hn] at this
  induction fuel with
  | zero =>
    intro listed a w hs hu hb hi hun hv hcl
    have hr : Region.ready md ops listed = [] := by
      cases h : Region.ready md ops listed with
      | nil => rfl
      | cons x xs =>
        have := unl_pos _ x (ready_false (md := md) (ops := ops) (listed := listed) (by rw [h]; simp))
        omega
    exact ⟨hr, hend a w hb hi fun j hj => hv j (all_listed htopo listed hs hr j j (Nat.le_refl _) hj)⟩
  | succ fuel ih =>
    intro listed a w hs hu hb hi hun hv hcl
    refine ⟨fun hr => hend a w hb hi fun j hj => hv j (all_listed htopo listed hs hr j j (Nat.le_refl _) hj), fun i him => ?_⟩
    obtain ⟨_, o, ho, hafter⟩ := mem_ready.1 him
    have hf := ready_false him
    have hui := hun i hf
    have hnanc : ∀ j, listed.getD j false = true → anc md ops ops.size j i = false := fun j hj => by
      cases h1 : anc md ops ops.size j i with
      | false => rfl
      | true =>
        exfalso
        obtain ⟨oj, hoj⟩ : ∃ oj, ops[j]? = some oj := by
          cases h4 : ops[j]? with
          | some oj => exact ⟨oj, rfl⟩
          | none =>
            unfold anc at h1
            cases h5 : ops.size with
            | zero => rw [h5] at h1; simp at h1
            | succ m => rw [h5] at h1; simp [h4] at h1
        have h3 := anc_listed hcl ops.size j oj hoj (hcl j hj oj hoj) h1
        rw [Array.getD_eq_getD_getElem?] at h3
        rw [Array.getElem?_toList] at hf
        rw [hf] at h3
        cases h3
    refine wpOp_mono (fun a' w' h => ?_) (hstep i o ho a w hb hi hui fun e he hbd => hv _ (hafter e he hbd))
    obtain ⟨v, rfl, hun', hVi, hRw⟩ := h
    refine ih _ _ _ (by simpa using hs) ?_ (hb.put ho v) (hI _ _ _ hRw hi) (fun j hj => ?_) (fun j hj => ?_) (fun j hj o' ho' e he hbd => ?_)
    · rw [Array.toList_setIfInBounds]
      have := unl_set _ i hf
      omega
    · rw [Array.toList_setIfInBounds] at hj
      by_cases hji : i = j
      · subst hji
        have hl : i < listed.toList.length := (List.getElem?_eq_some_iff.1 hf).1
        rw [List.getElem?_set_self hl] at hj
        cases hj
      · rw [List.getElem?_set_ne hji] at hj
        refine hU _ _ _ _ hji ?_ hi hui hRw (hun j hj)
        cases h1 : anc md ops ops.size i j with
        | false => rfl
        | true =>
          have h3 := anc_listed hcl ops.size i o ho hafter h1
          have h2 : listed.getD j false = false := by
            rw [Array.getElem?_toList] at hj
            rw [Array.getD_eq_getD_getElem?, hj]
            rfl
          rw [h2] at h3
          cases h3
    · by_cases hji : j = i
      · subst hji
        cases hd : o.dst with
        | none =>
          have hid : (ops[j]?).bind (·.dst) = none := by rw [ho]; exact hd
          have e : left ops (a.put none v) j = undef := by unfold left; rw [hid]
          rw [e, ← hun' hd]
          exact hVi
        | some d =>
          have hid : (ops[j]?).bind (·.dst) = some d := by rw [ho]; exact hd
          rw [left_same hown hid a hb.size v]
          exact hVi
      · cases hd : o.dst with
        | none =>
          have hj2 : listed.getD j false = true := by rwa [getD_set_ne false (Ne.symm hji)] at hj
          exact hV _ _ _ _ _ (Ne.symm hji) (hnanc j hj2) hi hui hRw (hv j hj2)
        | some d =>
          have hid : (ops[i]?).bind (·.dst) = some d := by rw [ho]; exact hd
          rw [left_other hown hid hji a v]
          have hj2 : listed.getD j false = true := by rwa [getD_set_ne false (Ne.symm hji)] at hj
          exact hV _ _ _ _ _ (Ne.symm hji) (hnanc j hj2) hi hui hRw (hv j hj2)
    · by_cases hji : j = i
      · subst hji
        rw [ho] at ho'
        cases ho'
        have h1 := hafter e he hbd
        by_cases hej : e.on = j
        · rw [hej] at h1
          rw [Array.getD_eq_getD_getElem?] at h1
          rw [Array.getElem?_toList] at hf
          rw [hf] at h1
          cases h1
        · rw [getD_set_ne false (Ne.symm hej)]; exact h1
      · have hj2 : listed.getD j false = true := by rwa [getD_set_ne false (Ne.symm hji)] at hj
        have h1 := hcl j hj2 o' ho' e he hbd
        by_cases hei : e.on = i
        · rw [hei] at h1
          rw [Array.getD_eq_getD_getElem?] at h1
          rw [Array.getElem?_toList] at hf
          rw [hf] at h1
          cases h1
        · rw [getD_set_ne false (Ne.symm hei)]; exact h1
theorem wp_region_fill4 {id : Nat} {a0 : Act} {w : World} (hm : P.follows .mixedOrders = true) (U : Nat → World → Prop) (V : Nat → Value → World → Prop) (I : World → Prop) (R : Nat → World → World → Prop) (hown : own ops a0.tmps.size = true) (htopo : topo .any ops = true)
    (h0 : I w.drew) (hu0 : ∀ j, U j w.drew)
    (hI : ∀ i w w', R i w w' → I w → I w') (hU : ∀ i j w w', i ≠ j → anc .any ops ops.size i j = false → I w → U i w → R i w w' → U j w → U j w') (hV : ∀ i j v w w', i ≠ j → anc .any ops ops.size j i = false → I w → U i w → R i w w' → V j v w → V j v w')
    (hstep : ∀ i o, ops[i]? = some o → ∀ a w, Near ops a0 a → I w → U i w → (∀ e ∈ o.after, Region.binds .any e = true → V e.on (left ops a e.on) w) →
      wpOp P ops Q i (fun a' w' => ∃ v, a' = a.put o.dst v ∧ (o.dst = none → v = undef) ∧ V i v w' ∧ R i w w') a w)
    (hdone : ∀ vals w, I w → (∀ j, j < ops.size → V j (vals j) w) → Q .normal (fill ops vals ops.size a0) w) : (Code.region id ops true).wp P Q a0 w :=
  wp_region_any hm (wpAny_fill4 a0 U V I R hown htopo hI hU hV hstep hdone ops.size (Array.replicate ops.size false) a0 _ (by simp)
    (by rw [Array.toList_replicate]; unfold unl; exact Nat.le_trans List.countP_le_length (by simp)) (Near.refl _) h0 (fun j _ => hu0 j) (fun j hj => by
      exfalso
      simp [Array.getD] at hj) (fun j hj => by
      exfalso
      simp [Array.getD] at hj))
theorem anc_no {C : Prop} {f i j : Nat} (h : anc md ops f i j = false) (h2 : anc md ops f i j = true) : C := by rw [h] at h2; cases h2
end
end Go.Proofs.YtpacjcgpeomnaaaDoor
