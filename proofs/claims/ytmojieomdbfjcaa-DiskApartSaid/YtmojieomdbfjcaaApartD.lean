/- Copy, Same; two disks of which one is written. -/
import Derived.Test.YtmojieomdbfjcaaApartC
namespace Go.Proofs.Ytmojieomdbfjcaa
open Go.ChangeShapes Go.WideShapes Go.ChangeAt Go.RowKit
set_option linter.unusedVariables false

set_option maxRecDepth 20000 in
theorem of_list (b c N : Nat) (ls : List ByteArray) (hl : ls.length = N) (hN : 1 ≤ N) (hN2 : N ≤ 1000) (w : World) (hx : Hid (∀ j, j < ls.length → w.cell? ⟨b, 0 + j, none⟩ = some (.string (ls.getD j ByteArray.empty)))) :
    Calls Try.prog 20 #[.slice (some ⟨b, 0, none⟩) N c] w fun e w' => ∃ g gn gl cn cl, e = .returned (.pointer (some ⟨g, 0, none⟩)) ∧
      DkAt w.heap.size w' g gn gl N cn cl (.slice none 0 0) (strs ls) (strs ls) [] 0 false 0 false ∧ Below w.heap.size w w' := by
  have HCl := Lib.hid (fun (W : World) (hb : Below w.heap.size w W) => Try.slices_Clone_string b 0 N c ls W (by omega) (by omega) (fun j hj => by
    have hc := hx.out j hj
    rw [show W.cell? ⟨b, 0 + j, none⟩ = w.cell? ⟨b, 0 + j, none⟩ by unfold World.cell?; rw [hb.block b (World.block_lt_of_cell? w _ hc)]]
    exact hc))
  have HT : Hid (True → (ls.take N).map Value.string = strs ls) := Lib.hid fun _ => by rw [List.take_of_length_le (by omega)]; rfl
  clear hx
  go_enter Try.func20, Try.ntmps20
  go_wp2_with fail
  refine (HCl.out w (Below.refl _ _)).mono ?_
  rintro e w1 ⟨v1, rfl, hown1, hnil1, hb1⟩
  have h1 := Lib.hid (And.intro hown1 (And.intro hnil1 hb1))
  clear hown1 hnil1 hb1
  go_wp2_with fail
  refine (HCl.out w1 h1.out.2.2).mono ?_
  rintro e w2 ⟨v2, rfl, hown2, hnil2, hb2⟩
  have h2 := Lib.hid (And.intro hown2 (And.intro hnil2 hb2))
  clear hown2 hnil2 hb2
  obtain ⟨gn, cn, rfl⟩ := own_shape h1.out.1 (by omega)
  obtain ⟨gl, cl, rfl⟩ := own_shape h2.out.1 (by omega)
  go_wp2_with fail
  go_ret
  have a1 := (h1.out.1.lt gn rfl)
  have a2 := (h2.out.1.lt gl rfl)
  have hb12 := h2.out.2.2
  have ho1 : Only (fun _ => False) w1 w2 := Only.of_below hb12
  have hA : ∀ o, Only (fun _ => False) w2 (w2.alloc o) := fun o => (Only.refl _ w2).alloc o
  have hs1 := hb12.size
  have hs0 := h1.out.2.2.size
  have q1 := own_base h1.out.1 (Nat.zero_le _)
  have q2 := own_base h2.out.1 (Nat.zero_le _)
  rw [HT.out trivial] at q1 q2
  have r1 := fun o => own_only (own_only q1 ho1 fun _ _ x => x) (hA o) fun _ _ x => x
  have r2 := fun o => own_only q2 (hA o) fun _ _ x => x
  refine ⟨w2.heap.size, gn, gl, cn, cl, rfl, ⟨?_, r1 _, r2 _, World.ownsRow_nil _ _ _ _, ⟨by omega, by omega, by omega, fun k hk => by cases hk⟩, ⟨by omega, by omega, by omega, by simp [Value.ownBlock], by simp [Value.ownBlock], by simp [Value.ownBlock]⟩⟩, ?_⟩
  · exact Array.getElem?_push_size
  · exact (h1.out.2.2.trans (hb12.mono hs0)).alloc (by omega) _
theorem strs_get {ls : List ByteArray} {w : World} {gl cl : Nat} (h6 : ls.length = 6) (h : w.ownsRow 0 9 1 (.slice (some ⟨gl, 0, none⟩) 6 cl) 6 (strs ls)) (j : Nat) (hj : j < ls.length) : w.cell? ⟨gl, 0 + j, none⟩ = some (.string (ls.getD j ByteArray.empty)) := by
  rw [Nat.zero_add, World.ownsRow.cellAt h j (by omega)]
  simp [strs, List.getD, hj]
set_option maxRecDepth 20000 in
theorem d6_copy {B : Nat} {w : World} {g k : Nat} {ls : List ByteArray} (h : D6 B w g ls k) :
    Calls Try.prog 17 #[.pointer (some ⟨g, 0, none⟩)] w fun e w' => ∃ g2, e = .returned (.pointer (some ⟨g2, 0, none⟩)) ∧ D6 w.heap.size w' g2 ls 0 ∧ Below w.heap.size w w' := by
  obtain ⟨gn, gl, cn, cl, vw, ns, W, st, h1, h2, h3, h4, h5, h6⟩ := h
  have hc1 := head1 h1.head
  have HO := Lib.hid (of_list gl cl 6 ls h6.1 (by decide) (by decide) w (Lib.hid (strs_get h6.1 h1.rows)))
  have H6 := Lib.hid h6
  clear h1 h2 h3 h4 h5 h6
  go_enter Try.func17, Try.ntmps17
  go_wp2_with fail
  refine HO.out.mono ?_
  rintro e w1 ⟨g2, gn2, gl2, cn2, cl2, rfl, hD, hb1⟩
  have hD1 := Lib.hid (And.intro hD hb1)
  clear hD hb1
  go_wp2_with fail
  go_ret
  exact ⟨g2, rfl, ⟨gn2, gl2, cn2, cl2, _, _, [], 0, hD1.out.1, by simp, by simp, by omega, by omega, H6.out⟩, hD1.out.2⟩
theorem below_drewn (w : World) (q : Nat) : Below w.heap.size w (w.drewN q) := below_drewN (Below.refl _ w) q
set_option maxRecDepth 20000 in
set_option maxHeartbeats 1000000 in
theorem d6_same {B B' : Nat} {w : World} {g g' k k' : Nat} {ls ls' : List ByteArray} (h : D6 B w g ls k) (h' : D6 B' w g' ls' k') :
    Calls Try.prog 18 #[.pointer (some ⟨g, 0, none⟩), .pointer (some ⟨g', 0, none⟩)] w fun e w' => e = .returned (.bool (decide (ls = ls'))) ∧ Below w.heap.size w w' := by
  obtain ⟨gn, gl, cn, cl, vw, ns, W0, st, h1, h2, h3, h4, h5, h6⟩ := h
  obtain ⟨gn', gl', cn', cl', vw', ns', W0', st', h1', h2', h3', h4', h5', h6'⟩ := h'
  have Hc1 := Lib.hid (fun V (hV : Below w.heap.size w V) => head1 (h1.below hV).head)
  have Hc2 := Lib.hid (fun V (hV : Below w.heap.size w V) => head1 (h1'.below hV).head)
  have HE : Hid (∀ V, Below w.heap.size w V → Calls Try.prog 25 #[.slice (some ⟨gl, 0, none⟩) 6 cl, .slice (some ⟨gl', 0, none⟩) 6 cl'] V fun e w' => e = .returned (.bool (decide (ls = ls'))) ∧ Below V.heap.size V w') := Lib.hid fun V hV => by
    refine (Try.slices_Equal_string gl 0 6 cl gl' 0 6 cl' ls ls' V (by rw [h6.1]; decide) (by rw [h6'.1]; decide) (by decide) (by decide) (fun j hj => strs_get h6.1 (h1.below hV).rows j hj) (fun j hj => strs_get h6'.1 (h1'.below hV).rows j hj)).mono ?_
    rintro e w' ⟨rfl, q, rfl⟩
    rw [List.take_of_length_le (by rw [h6.1]; decide), List.take_of_length_le (by rw [h6'.1]; decide)]
    exact ⟨rfl, below_drewn V q⟩
  clear h1 h2 h3 h4 h5 h6 h1' h2' h3' h4' h5' h6'
  go_enter Try.func18, Try.ntmps18
  go_wp2_with fail
  let R : World → World → Prop := fun W W2 => Below W.heap.size W W2
  let V : Nat → Value → World → Prop := fun j v W => match j with | 0 => v = .pointer (some ⟨g, 0, none⟩) | 1 => v = .pointer (some ⟨g, 0, none⟩) | 2 => v = .pointer (some ⟨g, 1, none⟩) | 3 => v = .slice (some ⟨gl, 0, none⟩) 6 cl | 4 => v = .pointer (some ⟨g', 0, none⟩) | 5 => v = .pointer (some ⟨g', 0, none⟩) | 6 => v = .pointer (some ⟨g', 1, none⟩) | 7 => v = .slice (some ⟨gl', 0, none⟩) 6 cl' | 8 => v = (.bool (decide (ls = ls'))) | 9 => v = (.bool (decide (ls = ls'))) | _ => True
  refine wp_region_fill (by kernel_rfl) V (fun W => Below w.heap.size w W) R (by kernel_rfl) (by kernel_rfl) ((Below.refl _ _).drew) (fun W W2 hr hi => hi.trans (hr.mono hi.size)) ?_ ?_ ?_
  · intro j v W W2 hr h
    match j, h with
    | 0, h => exact h
    | 1, h => exact h
    | 2, h => exact h
    | 3, h => exact h
    | 4, h => exact h
    | 5, h => exact h
    | 6, h => exact h
    | 7, h => exact h
    | 8, h => exact h
    | 9, h => exact h
    | n + 10, h => exact h
  · intro i o ho a W hN hi h
    match i, ho with
    | 0, ho =>
      obtain rfl := Option.some.inj (show some _ = some o from ho)
      have e0 : a.eval (.tmp 0) = .pointer (some ⟨g, 0, none⟩) := hN.eval 0 (by kernel_rfl)
      refine fill_value (v := .pointer (some ⟨g, 0, none⟩)) ho rfl (by rfl) (by clear h hN; have hcst : ∀ v, a.eval (.const v) = v := (fun _ => rfl); have hfun : ∀ f, a.eval (.func f) = .func (.func f) #[] #[] := (fun _ => rfl); generalize a.eval = ρ at *; go_simp) rfl (Below.refl _ _)
    | 1, ho =>
      obtain rfl := Option.some.inj (show some _ = some o from ho)
      have e14 : a.eval (.tmp 14) = .pointer (some ⟨g, 0, none⟩) := h ⟨0, .data⟩ (by simp) rfl
      refine fill_value (v := .pointer (some ⟨g, 0, none⟩)) ho rfl (by rfl) (by clear h hN; have hcst : ∀ v, a.eval (.const v) = v := (fun _ => rfl); have hfun : ∀ f, a.eval (.func f) = .func (.func f) #[] #[] := (fun _ => rfl); generalize a.eval = ρ at *; go_simp) rfl (Below.refl _ _)
    | 2, ho =>
      obtain rfl := Option.some.inj (show some _ = some o from ho)
      have e15 : a.eval (.tmp 15) = .pointer (some ⟨g, 0, none⟩) := h ⟨1, .data⟩ (by simp) rfl
      refine fill_value (v := .pointer (some ⟨g, 1, none⟩)) ho rfl (by rfl) (by clear h hN; have hcst : ∀ v, a.eval (.const v) = v := (fun _ => rfl); have hfun : ∀ f, a.eval (.func f) = .func (.func f) #[] #[] := (fun _ => rfl); generalize a.eval = ρ at *; go_simp) rfl (Below.refl _ _)
    | 3, ho =>
      obtain rfl := Option.some.inj (show some _ = some o from ho)
      have e16 : a.eval (.tmp 16) = .pointer (some ⟨g, 1, none⟩) := h ⟨2, .data⟩ (by simp) rfl
      have hc := Hc1.out W hi
      refine fill_value (v := .slice (some ⟨gl, 0, none⟩) 6 cl) ho rfl (by rfl) (by clear h hN; have hcst : ∀ v, a.eval (.const v) = v := (fun _ => rfl); have hfun : ∀ f, a.eval (.func f) = .func (.func f) #[] #[] := (fun _ => rfl); generalize a.eval = ρ at *; go_simp) rfl (Below.refl _ _)
    | 4, ho =>
      obtain rfl := Option.some.inj (show some _ = some o from ho)
      have e1 : a.eval (.tmp 1) = (.pointer (some ⟨g', 0, none⟩)) := hN.eval 1 (by kernel_rfl)
      refine fill_value (v := .pointer (some ⟨g', 0, none⟩)) ho rfl (by rfl) (by clear h hN; have hcst : ∀ v, a.eval (.const v) = v := (fun _ => rfl); have hfun : ∀ f, a.eval (.func f) = .func (.func f) #[] #[] := (fun _ => rfl); generalize a.eval = ρ at *; go_simp) rfl (Below.refl _ _)
    | 5, ho =>
      obtain rfl := Option.some.inj (show some _ = some o from ho)
      have e18 : a.eval (.tmp 18) = .pointer (some ⟨g', 0, none⟩) := h ⟨4, .data⟩ (by simp) rfl
      refine fill_value (v := .pointer (some ⟨g', 0, none⟩)) ho rfl (by rfl) (by clear h hN; have hcst : ∀ v, a.eval (.const v) = v := (fun _ => rfl); have hfun : ∀ f, a.eval (.func f) = .func (.func f) #[] #[] := (fun _ => rfl); generalize a.eval = ρ at *; go_simp) rfl (Below.refl _ _)
    | 6, ho =>
      obtain rfl := Option.some.inj (show some _ = some o from ho)
      have e19 : a.eval (.tmp 19) = .pointer (some ⟨g', 0, none⟩) := h ⟨5, .data⟩ (by simp) rfl
      refine fill_value (v := .pointer (some ⟨g', 1, none⟩)) ho rfl (by rfl) (by clear h hN; have hcst : ∀ v, a.eval (.const v) = v := (fun _ => rfl); have hfun : ∀ f, a.eval (.func f) = .func (.func f) #[] #[] := (fun _ => rfl); generalize a.eval = ρ at *; go_simp) rfl (Below.refl _ _)
    | 7, ho =>
      obtain rfl := Option.some.inj (show some _ = some o from ho)
      have e20 : a.eval (.tmp 20) = .pointer (some ⟨g', 1, none⟩) := h ⟨6, .data⟩ (by simp) rfl
      have hc := Hc2.out W hi
      refine fill_value (v := .slice (some ⟨gl', 0, none⟩) 6 cl') ho rfl (by rfl) (by clear h hN; have hcst : ∀ v, a.eval (.const v) = v := (fun _ => rfl); have hfun : ∀ f, a.eval (.func f) = .func (.func f) #[] #[] := (fun _ => rfl); generalize a.eval = ρ at *; go_simp) rfl (Below.refl _ _)
    | 8, ho =>
      obtain rfl := Option.some.inj (show some _ = some o from ho)
      have e17 : a.eval (.tmp 17) = .slice (some ⟨gl, 0, none⟩) 6 cl := h ⟨3, .data⟩ (by simp) rfl
      have e21 : a.eval (.tmp 21) = .slice (some ⟨gl', 0, none⟩) 6 cl' := h ⟨7, .data⟩ (by simp) rfl
      refine fill_enter (f := 25) (args := #[.slice (some ⟨gl, 0, none⟩) 6 cl, .slice (some ⟨gl', 0, none⟩) 6 cl']) ho rfl (by rfl) (by clear h hN; have hcst : ∀ v, a.eval (.const v) = v := (fun _ => rfl); have hfun : ∀ f, a.eval (.func f) = .func (.func f) #[] #[] := (fun _ => rfl); generalize a.eval = ρ at *; go_simp) (HE.out W hi) ?_
      rintro e w2 ⟨rfl, hb⟩
      exact ⟨_, rfl, rfl, hb⟩
    | 9, ho =>
      obtain rfl := Option.some.inj (show some _ = some o from ho)
      have e22 : a.eval (.tmp 22) = (.bool (decide (ls = ls'))) := h ⟨8, .data⟩ (by simp) rfl
      refine fill_value (v := (.bool (decide (ls = ls')))) ho rfl (by rfl) (by clear h hN; have hcst : ∀ v, a.eval (.const v) = v := (fun _ => rfl); have hfun : ∀ f, a.eval (.func f) = .func (.func f) #[] #[] := (fun _ => rfl); generalize a.eval = ρ at *; go_simp) rfl (Below.refl _ _)
    | n + 10, ho => exact absurd ho (by simp)
  · intro vals W hi h
    have u0 : vals 0 = .pointer (some ⟨g, 0, none⟩) := h 0 (by decide)
    have u1 : vals 1 = .pointer (some ⟨g, 0, none⟩) := h 1 (by decide)
    have u2 : vals 2 = .pointer (some ⟨g, 1, none⟩) := h 2 (by decide)
    have u3 : vals 3 = .slice (some ⟨gl, 0, none⟩) 6 cl := h 3 (by decide)
    have u4 : vals 4 = .pointer (some ⟨g', 0, none⟩) := h 4 (by decide)
    have u5 : vals 5 = .pointer (some ⟨g', 0, none⟩) := h 5 (by decide)
    have u6 : vals 6 = .pointer (some ⟨g', 1, none⟩) := h 6 (by decide)
    have u7 : vals 7 = .slice (some ⟨gl', 0, none⟩) 6 cl' := h 7 (by decide)
    have u8 : vals 8 = (.bool (decide (ls = ls'))) := h 8 (by decide)
    have u9 : vals 9 = (.bool (decide (ls = ls'))) := h 9 (by decide)
    generalize hA : fill _ _ _ _ = A
    have hA2 : (Act.put (Act.put (Act.put (Act.put (Act.put (Act.put (Act.put (Act.put (Act.put (Act.put (_ : Act) (some 14) (vals 0)) (some 15) (vals 1)) (some 16) (vals 2)) (some 17) (vals 3)) (some 18) (vals 4)) (some 19) (vals 5)) (some 20) (vals 6)) (some 21) (vals 7)) (some 22) (vals 8)) (some 4) (vals 9)) = A := hA
    clear hA h V R
    rw [u0, u1, u2, u3, u4, u5, u6, u7, u8, u9] at hA2
    simp only [fill, Act.put, List.setIfInBounds_toArray, List.set_cons_succ, List.set_cons_zero] at hA2
    subst hA2
    clear u0 u1 u2 u3 u4 u5 u6 u7 u8 u9
    go_wp2_with fail
    go_ret
    exact ⟨rfl, hi⟩
/-- what a disk is made of -/
def mine (g gn gl : Nat) (vw : Value) (q : Nat) : Prop := q = g ∨ q = gn ∨ q = gl ∨ vw.ownBlock = some q
theorem dk_same {B : Nat} {w w' : World} {g gn gl L cn cl : Nat} {vw : Value} {ns ls : List Value} {W : List (Nat × ByteArray)} {st : Int} {ar : Bool} {le : Int} {off : Bool} (h : DkAt B w g gn gl L cn cl vw ns ls W st ar le off) (hs : ∀ q, mine g gn gl vw q → w'.heap[q]? = w.heap[q]?) : DkAt B w' g gn gl L cn cl vw ns ls W st ar le off := by
  refine ⟨?_, own_same h.now fun k hk => ?_, own_same h.rows fun k hk => ?_, own_same h.own fun k hk => hs k (.inr (.inr (.inr hk))), h.ge, h.ne⟩
  · have := h.head
    unfold Head at *
    rw [hs g (.inl rfl)]
    exact this
  · cases hk; exact hs gn (.inr (.inl rfl))
  · cases hk; exact hs gl (.inr (.inr (.inl rfl)))
theorem mine_lt {B : Nat} {w : World} {g gn gl L cn cl : Nat} {vw : Value} {ns ls : List Value} {W : List (Nat × ByteArray)} {st : Int} {ar : Bool} {le : Int} {off : Bool} (h : DkAt B w g gn gl L cn cl vw ns ls W st ar le off) (q : Nat) (hq : mine g gn gl vw q) : q < w.heap.size ∧ B ≤ q := by
  rcases hq with rfl | rfl | rfl | hq
  · exact ⟨head_lt h.head, h.ge.1⟩
  · obtain ⟨cur, hq⟩ := own_type h.now
    exact ⟨(Array.getElem?_eq_some_iff.1 hq).1, h.ge.2.1⟩
  · obtain ⟨cur, hq⟩ := own_type h.rows
    exact ⟨(Array.getElem?_eq_some_iff.1 hq).1, h.ge.2.2.1⟩
  · exact ⟨(h.own.lt q hq).2, h.ge.2.2.2 q hq⟩
/-- a sector in memory lies beside a disk -/
theorem sec_side {B : Nat} {w : World} {g gn gl L cn cl : Nat} {vw : Value} {ns ls : List Value} {W : List (Nat × ByteArray)} {st : Int} {ar : Bool} {le : Int} {off : Bool} (h : DkAt B w g gn gl L cn cl vw ns ls W st ar le off) {gb : Nat} {x : Int} (hs : Sec w gb x) : Side w gb g gn gl vw := by
  obtain ⟨cb, hb⟩ := own_type hs
  refine ⟨?_, ?_, ?_, ?_, (Array.getElem?_eq_some_iff.1 hb).1⟩
  · rintro rfl
    have := h.head
    unfold Head at this
    rw [this] at hb
    exact absurd hb (by simp)
  · rintro rfl
    obtain ⟨cur, hq⟩ := own_type h.now
    rw [hq] at hb
    exact absurd hb (by simp)
  · rintro rfl
    obtain ⟨cur, hq⟩ := own_type h.rows
    rw [hq] at hb
    exact absurd hb (by simp)
  · intro e
    rcases h.own.2 with ⟨e2, _⟩ | ⟨gw, cap, cur, e2, _, hq, _⟩
    · rw [e2] at e; cases e
    · rw [e2] at e
      cases e
      rw [hq] at hb
      exact absurd hb (by simp)
theorem sec_same {w w' : World} {gb : Nat} {x : Int} (hs : Sec w gb x) (h : w'.heap[gb]? = w.heap[gb]?) : Sec w' gb x := own_same hs fun k hk => by cases hk; exact h
/-- Write, with the sectors in memory as they were -/
theorem d6_write2 {B : Nat} {w : World} {g k : Nat} {ls : List ByteArray} (h : D6 B w g ls k) (hk : k ≤ 100) (n x : Int) (gb : Nat) (hs : Sec w gb x) (hgb : gb ≠ g) :
    Calls Try.prog 8 #[.pointer (some ⟨g, 0, none⟩), .int .i64 n, .slice (some ⟨gb, 0, none⟩) 512 512] w fun e w' => ∃ v : Int, e = .returned (.int .i64 v) ∧ D6 B w' g ls (k + 1) ∧ Below B w w' ∧ ∀ gb x, Sec w gb x → Sec w' gb x := by
  obtain ⟨gn, gl, cn, cl, vw, ns, W, st, h1, h2, h3, h4, h5, h6⟩ := h
  by_cases hn : 0 ≤ n ∧ n < 6
  · obtain ⟨m, rfl⟩ := Int.eq_ofNat_of_zero_le hn.1
    refine (dk_write2 0 rfl (m : Int) m rfl h1 (by omega) gb x hs hgb (by omega) (by decide) (by decide) (by omega) (by omega) (by decide)).mono ?_
    rintro e w' ⟨rfl, gw, cw, a1, a2, a3⟩
    refine ⟨0, rfl, ⟨gn, gl, cn, cl, _, _, _, _, a1, fun y hy => ?_, by rw [List.length_append]; simp; omega, by omega, by omega, h6⟩, a2, fun gb' x' hs' => sec_same hs' (a3 gb' (sec_side h1 hs')).2⟩
    rcases List.mem_append.1 hy with hy | hy
    · exact h2 y hy
    · rw [List.mem_singleton] at hy
      rw [hy]
      exact ⟨by show m < 6; omega, secS_size x⟩
  · refine (write_bad h1 n hn gb).mono ?_
    rintro e w' ⟨rfl, rfl⟩
    exact ⟨1, rfl, ⟨gn, gl, cn, cl, vw, ns, W, st, h1, h2, by omega, h4, by omega, h6⟩, Below.refl _ _, fun _ _ q => q⟩
/-- two disks, the second one beside the first -/
def Two (B Bc : Nat) (w : World) (g gc : Nat) (ls lc : List ByteArray) (k : Nat) : Prop := ∃ gn gl cn cl vw ns W st, DkAt B w g gn gl 6 cn cl vw ns (strs ls) W st false 0 false ∧ (∀ x ∈ W, x.1 < 6 ∧ x.2.size = 512) ∧ W.length ≤ k ∧ 0 ≤ st ∧ st ≤ (k : Int) ∧ Sz ls ∧
  ∃ gn' gl' cn' cl' vw' ns' W' st' k', DkAt Bc w gc gn' gl' 6 cn' cl' vw' ns' (strs lc) W' st' false 0 false ∧ (∀ x ∈ W', x.1 < 6 ∧ x.2.size = 512) ∧ W'.length ≤ k' ∧ 0 ≤ st' ∧ st' ≤ (k' : Int) ∧ Sz lc ∧ ∀ q, mine gc gn' gl' vw' q → Side w q g gn gl vw
theorem two_first {B Bc : Nat} {w : World} {g gc : Nat} {ls lc : List ByteArray} {k : Nat} (h : Two B Bc w g gc ls lc k) : D6 B w g ls k := by
  obtain ⟨gn, gl, cn, cl, vw, ns, W, st, h1, h2, h3, h4, h5, h6, _⟩ := h
  exact ⟨gn, gl, cn, cl, vw, ns, W, st, h1, h2, h3, h4, h5, h6⟩
theorem two_second {B Bc : Nat} {w : World} {g gc : Nat} {ls lc : List ByteArray} {k : Nat} (h : Two B Bc w g gc ls lc k) : ∃ k', D6 Bc w gc lc k' := by
  obtain ⟨_, _, _, _, _, _, _, _, _, _, _, _, _, _, gn', gl', cn', cl', vw', ns', W', st', k', h1, h2, h3, h4, h5, h6, _⟩ := h
  exact ⟨k', gn', gl', cn', cl', vw', ns', W', st', h1, h2, h3, h4, h5, h6⟩
theorem two_of {B : Nat} {wb w : World} {g gc k kc : Nat} {ls lc : List ByteArray} (h : D6 B wb g ls k) (hb : Below wb.heap.size wb w) (hc : D6 wb.heap.size w gc lc kc) : Two B wb.heap.size w g gc ls lc k := by
  obtain ⟨gn, gl, cn, cl, vw, ns, W, st, h1, h2, h3, h4, h5, h6⟩ := h
  obtain ⟨gn', gl', cn', cl', vw', ns', W', st', c1, c2, c3, c4, c5, c6⟩ := hc
  refine ⟨gn, gl, cn, cl, vw, ns, W, st, h1.below hb, h2, h3, h4, h5, h6, gn', gl', cn', cl', vw', ns', W', st', kc, c1, c2, c3, c4, c5, c6, fun q hq => ?_⟩
  obtain ⟨q1, q2⟩ := mine_lt c1 q hq
  have m1 := (mine_lt h1 g (.inl rfl)).1
  have m2 := (mine_lt h1 gn (.inr (.inl rfl))).1
  have m3 := (mine_lt h1 gl (.inr (.inr (.inl rfl)))).1
  exact ⟨by omega, by omega, by omega, fun e => by have := (mine_lt h1 q (.inr (.inr (.inr e)))).1; omega, q1⟩
theorem two_below {B Bc : Nat} {w w' : World} {g gc : Nat} {ls lc : List ByteArray} {k : Nat} (h : Two B Bc w g gc ls lc k) (hb : Below w.heap.size w w') : Two B Bc w' g gc ls lc k := by
  obtain ⟨gn, gl, cn, cl, vw, ns, W, st, h1, h2, h3, h4, h5, h6, gn', gl', cn', cl', vw', ns', W', st', k', c1, c2, c3, c4, c5, c6, c7⟩ := h
  exact ⟨gn, gl, cn, cl, vw, ns, W, st, h1.below hb, h2, h3, h4, h5, h6, gn', gl', cn', cl', vw', ns', W', st', k', c1.below hb, c2, c3, c4, c5, c6, fun q hq => (side_below (c7 q hq) hb).1⟩
theorem two_write {B Bc : Nat} {w : World} {g gc : Nat} {ls lc : List ByteArray} {k : Nat} (h : Two B Bc w g gc ls lc k) (hk : k ≤ 100) (x : Int) (gb : Nat) (hs : Sec w gb x) (hgb : gb ≠ g) :
    Calls Try.prog 8 #[.pointer (some ⟨g, 0, none⟩), .int .i64 0, .slice (some ⟨gb, 0, none⟩) 512 512] w fun e w' => e = .returned (.int .i64 0) ∧ Two B Bc w' g gc ls lc (k + 1) ∧ Below B w w' := by
  obtain ⟨gn, gl, cn, cl, vw, ns, W, st, h1, h2, h3, h4, h5, h6, gn', gl', cn', cl', vw', ns', W', st', k', c1, c2, c3, c4, c5, c6, c7⟩ := h
  refine (dk_write2 0 rfl 0 0 rfl h1 (by omega) gb x hs hgb (by omega) (by decide) (by decide) (by omega) (by omega) (by decide)).mono ?_
  rintro e w' ⟨rfl, gw, cw, a1, a2, a3⟩
  refine ⟨rfl, ⟨gn, gl, cn, cl, _, _, _, _, a1, fun y hy => ?_, by rw [List.length_append]; simp; omega, by omega, by omega, h6, gn', gl', cn', cl', vw', ns', W', st', k', dk_same c1 fun q hq => (a3 q (c7 q hq)).2, c2, c3, c4, c5, c6, fun q hq => (a3 q (c7 q hq)).1⟩, a2⟩
  rcases List.mem_append.1 hy with hy | hy
  · exact h2 y hy
  · rw [List.mem_singleton] at hy
    rw [hy]
    exact ⟨by show 0 < 6; omega, secS_size x⟩
theorem two_barrier {B Bc : Nat} {w : World} {g gc : Nat} {ls lc : List ByteArray} {k : Nat} (h : Two B Bc w g gc ls lc k) (hk : k ≤ 100) :
    Calls Try.prog 10 #[.pointer (some ⟨g, 0, none⟩)] w fun e w' => e = .returned (.int .i64 0) ∧ ∃ ls', Two B Bc w' g gc ls' lc (k + 1) ∧ Below B w w' := by
  obtain ⟨gn, gl, cn, cl, vw, ns, W, st, h1, h2, h3, h4, h5, h6, gn', gl', cn', cl', vw', ns', W', st', k', c1, c2, c3, c4, c5, c6, c7⟩ := h
  refine (dk_barrier2 0 rfl h1 (fun x hx => (h2 x hx).1) (by omega) (by decide) (by decide) (by omega) (by omega) (by decide)).mono ?_
  rintro e w' ⟨rfl, a1, a2, a3⟩
  rw [setAll_strs] at a1
  exact ⟨rfl, _, ⟨gn, gl, cn, cl, _, _, _, _, a1, by simp, by simp, by omega, by omega, setT_sz W ls h6 h2, gn', gl', cn', cl', vw', ns', W', st', k', dk_same c1 fun q hq => (a3 q (c7 q hq)).2, c2, c3, c4, c5, c6, fun q hq => (a3 q (c7 q hq)).1⟩, a2⟩
theorem two_sz {B Bc : Nat} {w : World} {g gc : Nat} {ls lc : List ByteArray} {k : Nat} (h : Two B Bc w g gc ls lc k) : Sz ls ∧ Sz lc := by
  obtain ⟨_, _, _, _, _, _, _, _, _, _, _, _, _, h6, _, _, _, _, _, _, _, _, _, _, _, _, _, _, c6, _⟩ := h
  exact ⟨h6, c6⟩
theorem d6_sz {B : Nat} {w : World} {g k : Nat} {ls : List ByteArray} (h : D6 B w g ls k) : Sz ls := by
  obtain ⟨_, _, _, _, _, _, _, _, _, _, _, _, _, h6⟩ := h
  exact h6
theorem img_eq {a b : List ByteArray} (ha : Sz a) (hb : Sz b) : ((img a).toList == (img b).toList) = decide (a = b) := by
  by_cases h : a = b
  · subst h; simp
  · rw [decide_eq_false h, beq_eq_false_iff_ne]
    intro e
    rw [ByteArray.toList_eq, ByteArray.toList_eq] at e
    exact h (img_inj ha hb (ByteArray.ext (Array.toList_inj.1 e)))
end Go.Proofs.Ytmojieomdbfjcaa
