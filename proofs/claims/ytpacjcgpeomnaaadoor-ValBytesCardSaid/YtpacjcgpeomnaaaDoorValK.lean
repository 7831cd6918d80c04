/- The document's words of val: Same. -/
import Derived.Test.YtpacjcgpeomnaaaDoorValJ
import Derived.Test.YtpacjcgpeomnaaaDoorReg
namespace Go.Proofs.YtpacjcgpeomnaaaDoor
open Go.ChangeShapes Go.WideShapes Go.ChangeAt Go.RowKit
set_option linter.unusedVariables false
set_option maxRecDepth 20000

/-- are two trees the same? -/
noncomputable def eqT (a b : T) : Bool := @decide (a = b) (Classical.propDecidable _)
theorem eqT_no {a b : T} (h : ¬ a = b) : eqT a b = false := by unfold eqT; exact @decide_eq_false _ (Classical.propDecidable _) h
theorem eqT_yes {a b : T} (h : a = b) : eqT a b = true := by unfold eqT; exact @decide_eq_true _ (Classical.propDecidable _) h
theorem eqT_iff {a b : T} : eqT a b = true ↔ a = b := by unfold eqT; exact @decide_eq_true_iff _ (Classical.propDecidable _)
theorem er_mk (k n : Int) (t : ByteArray) (a : Option Addr) (cap : Nat) (ks : List V) : er (.mk k n t a cap ks) = .mk k n t (ks.map er) := by rw [er_eq]; rfl
def SameOk (n₀ : Nat) (x : V) : Prop := ∀ (y : V) (W : World), Lies (· < n₀) W x → Lies (· < n₀) W y → n₀ ≤ W.heap.size →
  Calls Tryd.prog 15 #[x.val, y.val] W fun e w' => e = .returned (.bool (eqT (er x) (er y))) ∧ Hid (Below W.heap.size W w')
theorem row_of {F : Nat → Prop} {W : World} {k n : Int} {t : ByteArray} {ap : Option Addr} {cap : Nat} {ks : List V} (h : Lies F W (.mk k n t ap cap ks)) : ∃ g o, (ks ≠ [] → ap = some ⟨g, o, none⟩) ∧ (ks ≠ [] → F g) ∧ Row F W g o ks := by
  rcases h.row with e | ⟨g, o, ea, hg, hr⟩
  · have e : ks = [] := e
    subst e
    exact ⟨0, 0, fun h => absurd rfl h, fun h => absurd rfl h, by unfold Row; trivial⟩
  · exact ⟨g, o, fun _ => ea, fun _ => hg, hr⟩
set_option maxHeartbeats 16000000 in
theorem refSame_any (n₀ : Nat) (v : V) : SameOk n₀ v := by
  induction v using V.ind with
  | h k n t ap cap ks ih =>
    intro y W hL hL2 hn
    obtain ⟨k2, n2, t2, ap2, cap2, ks2⟩ := y
    rw [er_mk, er_mk, V.val_eq, V.val_eq]
    have hok : ks.length ≤ cap := hL.ok.2.2.2.1
    have hok2 : ks2.length ≤ cap2 := hL2.ok.2.2.2.1
    have hmx : cap ≤ maxLen := hL.ok.2.2.2.2
    have hmx2 : cap2 ≤ maxLen := hL2.ok.2.2.2.2
    obtain ⟨W0, hW0⟩ : ∃ W1, W.alloc (.cells #[.int .i64 k, .int .i64 n, .string t, .slice ap ks.length cap] 24) = W1 := ⟨_, rfl⟩
    have hB0 : Below W.heap.size W W0 := by rw [← hW0]; exact (Below.refl _ _).alloc (Nat.le_refl _) _
    have hbox0 : W0.heap[W.heap.size]? = some (.cells #[.int .i64 k, .int .i64 n, .string t, .slice ap ks.length cap] 24 (0, 0)) := by rw [← hW0]; exact World.alloc_heap_new W _
    obtain ⟨W1, hW1⟩ : ∃ W1, W0.alloc (.cells #[.int .i64 k2, .int .i64 n2, .string t2, .slice ap2 ks2.length cap2] 24) = W1 := ⟨_, rfl⟩
    have hB1 : Below W0.heap.size W0 W1 := by rw [← hW1]; exact (Below.refl _ _).alloc (Nat.le_refl _) _
    have hbox1 : W1.heap[W0.heap.size]? = some (.cells #[.int .i64 k2, .int .i64 n2, .string t2, .slice ap2 ks2.length cap2] 24 (0, 0)) := by rw [← hW1]; exact World.alloc_heap_new W0 _
    have hbox2 : W1.heap[W.heap.size]? = some (.cells #[.int .i64 k, .int .i64 n, .string t, .slice ap ks.length cap] 24 (0, 0)) := by rw [hB1.block _ (Array.getElem?_eq_some_iff.1 hbox0).1]; exact hbox0
    have HBa := Lib.hid (fun W' (h : Below W1.heap.size W1 W') => box4_later hbox2 h)
    have HBb := Lib.hid (fun W' (h : Below W1.heap.size W1 W') => box4_later hbox1 h)
    have HB1 := Lib.hid (show Below W.heap.size W W1 from hB0.trans (hB1.mono hB0.size))
    obtain ⟨b0, b1, b2, b3⟩ := box4 hbox2
    obtain ⟨c0, c1, c2, c3⟩ := box4 hbox1
    have HIh := Lib.hid ih
    have HL := Lib.hid hL
    have HL2 := Lib.hid hL2
    have HN := Lib.hid hn
    clear ih hL hL2 hn hB0 hbox0 hB1 hbox1 hbox2
    by_cases h0 : k = k2
    case neg =>
      have h0b : (k != k2) = true := by simpa using h0
      have HF := Lib.hid (eqT_no (a := .mk k n t (ks.map er)) (b := .mk k2 n2 t2 (ks2.map er)) (fun e => h0 (by injection e)))
      go_enter Tryd.func15, Tryd.ntmps15
      go_wp2_with fail
      go_ret
      exact ⟨by rw [HF.out]; rfl, HB1⟩
    subst h0
    by_cases h0 : n = n2
    case neg =>
      have h0b : (n != n2) = true := by simpa using h0
      have HF := Lib.hid (eqT_no (a := .mk k n t (ks.map er)) (b := .mk k n2 t2 (ks2.map er)) (fun e => h0 (by injection e)))
      go_enter Tryd.func15, Tryd.ntmps15
      go_wp2_with fail
      go_ret
      exact ⟨by rw [HF.out]; rfl, HB1⟩
    subst h0
    by_cases h0 : t = t2
    case neg =>
      have h0l : ¬ t.toList = t2.toList := fun e => h0 (by rw [ByteArray.toList_eq, ByteArray.toList_eq] at e; exact ByteArray.ext (Array.toList_inj.1 e))
      have h0b : (t.toList != t2.toList) = true := by simpa using h0l
      have h0c : (t.toList == t2.toList) = false := by simpa using h0l
      have HF := Lib.hid (eqT_no (a := .mk k n t (ks.map er)) (b := .mk k n t2 (ks2.map er)) (fun e => h0 (by injection e)))
      go_enter Tryd.func15, Tryd.ntmps15
      go_wp2_with fail
      go_ret
      exact ⟨by rw [HF.out]; rfl, HB1⟩
    subst h0
    obtain ⟨m, hm⟩ : ∃ m, ks.length = m := ⟨_, rfl⟩
    obtain ⟨m2, hm2⟩ : ∃ m, ks2.length = m := ⟨_, rfl⟩
    by_cases h0 : m = m2
    case neg =>
      have h0b : ((m : Int) != (m2 : Int)) = true := by simp; omega
      have HF := Lib.hid (eqT_no (a := .mk k n t (ks.map er)) (b := .mk k n t (ks2.map er)) (fun e => h0 (by
        have e2 : ks.map er = ks2.map er := by injection e
        have := congrArg List.length e2
        rw [List.length_map, List.length_map] at this
        omega)))
      rw [hm] at b3 HBa hW0 ⊢
      rw [hm2] at c3 HBb hW1 ⊢
      clear hm hm2
      go_enter Tryd.func15, Tryd.ntmps15
      go_wp2_with fail
      go_ret
      exact ⟨by rw [HF.out]; rfl, HB1⟩
    subst h0
    obtain ⟨g, o, ha, hg, hr⟩ := row_of HL.out
    obtain ⟨g2, o2, ha2, hg2, hr2⟩ := row_of HL2.out
    have HR := Lib.hid (show (ks ≠ [] → ap = some ⟨g, o, none⟩) ∧ (ks ≠ [] → g < n₀) ∧ Row (· < n₀) W g o ks from ⟨ha, hg, hr⟩)
    have HR2 := Lib.hid (show (ks2 ≠ [] → ap2 = some ⟨g2, o2, none⟩) ∧ (ks2 ≠ [] → g2 < n₀) ∧ Row (· < n₀) W g2 o2 ks2 from ⟨ha2, hg2, hr2⟩)
    have HM := Lib.hid (show ks.length = m ∧ ks2.length = m from ⟨hm, hm2⟩)
    rw [hm] at hok b3 HBa hW0 ⊢
    rw [hm2] at hok2 c3 HBb hW1 ⊢
    have hokI : (m : Int) ≤ (cap : Int) := by omega
    have hokI2 : (m : Int) ≤ (cap2 : Int) := by omega
    have hmM : (m : Int) ≤ 9223372036854775807 := by unfold maxLen at hmx; omega
    obtain ⟨Ba, hBa⟩ : ∃ x, W.heap.size = x := ⟨_, rfl⟩
    obtain ⟨Bb, hBb⟩ : ∃ x, W0.heap.size = x := ⟨_, rfl⟩
    have HSa := Lib.hid (fun _ : True => hBa)
    rw [hBa] at b0 b1 b2 b3 HBa
    rw [hBb] at c0 c1 c2 c3 HBb
    clear hm hm2 ha hg hr ha2 hg2 hr2 hmx hmx2 hok hok2
    go_enter Tryd.func15, Tryd.ntmps15
    go_upto_if 33 with fail
    clear hW0 hW1 b0 b1 b2 b3 c0 c1 c2 c3
    go_wp2_with fail
    go_loopw [5] (fun i wr => ∃ (j : Nat), i = .int .i64 (j : Int) ∧ j ≤ m ∧ Hid ((ks.take j).map er = (ks2.take j).map er) ∧ Hid (Below W1.heap.size W1 wr)) (fun i _ => m - (intOf i).toNat)
    case atStart => exact ⟨0, rfl, Nat.zero_le _, Lib.hid rfl, Lib.hid (Below.refl _ _)⟩
    case round =>
      obtain ⟨j, rfl, hj, HD, HB⟩ := hrel
      obtain ⟨b0, b1, b2, b3⟩ := HBa.out wr HB.out
      by_cases hlt : j < m
      · have hl1 : j < ks.length := by have := HM.out.1; omega
        have hl2 : j < ks2.length := by have := HM.out.2; omega
        have hne1 : ks ≠ [] := fun e => by rw [e] at hl1; simp at hl1
        have hne2 : ks2 ≠ [] := fun e => by rw [e] at hl2; simp at hl2
        obtain rfl : ap = some ⟨g, o, none⟩ := HR.out.1 hne1
        obtain rfl : ap2 = some ⟨g2, o2, none⟩ := HR2.out.1 hne2
        obtain ⟨hat1, hli1⟩ : At4 W g (o + 4 * j) ks[j] ∧ Lies (· < n₀) W ks[j] := HR.out.2.2.get j hl1
        obtain ⟨hat2, hli2⟩ : At4 W g2 (o2 + 4 * j) ks2[j] ∧ Lies (· < n₀) W ks2[j] := HR2.out.2.2.get j hl2
        have htk1 : ks.take (j + 1) = ks.take j ++ [ks[j]] := List.take_succ_eq_append_getElem hl1
        have htk2 : ks2.take (j + 1) = ks2.take j ++ [ks2[j]] := List.take_succ_eq_append_getElem hl2
        have hmem : ks[j] ∈ ks := List.getElem_mem hl1
        have hge1 : (ks.map er)[j]? = some (er ks[j]) := by rw [List.getElem?_map, List.getElem?_eq_getElem hl1]; rfl
        have hge2 : (ks2.map er)[j]? = some (er ks2[j]) := by rw [List.getElem?_map, List.getElem?_eq_getElem hl2]; rfl
        obtain ⟨x, hx⟩ : ∃ x, ks[j] = x := ⟨_, rfl⟩
        obtain ⟨y, hy⟩ : ∃ y, ks2[j] = y := ⟨_, rfl⟩
        rw [hx] at hat1 hli1 htk1 hmem hge1
        rw [hy] at hat2 hli2 htk2 hge2
        have HX : Hid (∀ W', Below W1.heap.size W1 W' → Below n₀ W W') := Lib.hid fun W' h => (HB1.out.mono HN.out).trans (h.mono (Nat.le_trans HN.out HB1.out.size))
        have HA1 : Hid (∀ W', Below W1.heap.size W1 W' → W'.cell? ⟨g, o + j * 4, none⟩ = some (.int .i64 x.k) ∧ W'.cell? ⟨g, o + j * 4 + 1, none⟩ = some (.int .i64 x.n) ∧ W'.cell? ⟨g, o + j * 4 + 2, none⟩ = some (.string x.t) ∧ W'.cell? ⟨g, o + j * 4 + 3, none⟩ = some (.slice x.a x.ks.length x.cap)) := Lib.hid fun W' h => by
          have := hat1.same ((HX.out W' h).block g (HR.out.2.1 hne1))
          rw [show o + 4 * j = o + j * 4 by omega] at this
          exact this
        have HA2 : Hid (∀ W', Below W1.heap.size W1 W' → W'.cell? ⟨g2, o2 + j * 4, none⟩ = some (.int .i64 y.k) ∧ W'.cell? ⟨g2, o2 + j * 4 + 1, none⟩ = some (.int .i64 y.n) ∧ W'.cell? ⟨g2, o2 + j * 4 + 2, none⟩ = some (.string y.t) ∧ W'.cell? ⟨g2, o2 + j * 4 + 3, none⟩ = some (.slice y.a y.ks.length y.cap)) := Lib.hid fun W' h => by
          have := hat2.same ((HX.out W' h).block g2 (HR2.out.2.1 hne2))
          rw [show o2 + 4 * j = o2 + j * 4 by omega] at this
          exact this
        obtain ⟨q, hq⟩ : ∃ q, eqT (er x) (er y) = q := ⟨_, rfl⟩
        have HC : Hid (∀ W', Below W1.heap.size W1 W' → Calls Tryd.prog 15 #[.agg #[.int .i64 x.k, .int .i64 x.n, .string x.t, .slice x.a x.ks.length x.cap], .agg #[.int .i64 y.k, .int .i64 y.n, .string y.t, .slice y.a y.ks.length y.cap]] W' fun e w' => e = .returned (.bool q) ∧ Hid (Below W'.heap.size W' w')) := Lib.hid fun W' h => by
          have := HIh.out x hmem y W' (hli1.below (HX.out W' h)) (hli2.below (HX.out W' h)) (Nat.le_trans (Nat.le_trans HN.out HB1.out.size) h.size)
          rw [hq] at this
          exact this
        have HS : Hid (q = true → (ks.take (j + 1)).map er = (ks2.take (j + 1)).map er) := Lib.hid fun e => by
          rw [e] at hq
          rw [htk1, htk2, List.map_append, List.map_append, HD.out, List.map_cons, List.map_cons, eqT_iff.1 hq]
        have HNo : Hid (q = false → eqT (.mk k n t (ks.map er)) (.mk k n t (ks2.map er)) = false) := Lib.hid fun e => by
          rw [e] at hq
          refine eqT_no fun e3 => ?_
          have e2 : ks.map er = ks2.map er := by injection e3
          rw [e2, hge2] at hge1
          have := Option.some.inj hge1
          rw [this, eqT_yes rfl] at hq
          cases hq
        clear hl1 hl2 hne1 hne2 hat1 hli1 hat2 hli2 htk1 htk2 hmem hge1 hge2 hx hy hq HX
        go_upto_region 6 with fail
        have hltI : (j : Int) < (m : Int) := by omega
        let R : World → World → Prop := fun W W2 => Below W.heap.size W W2
        let V : Nat → Value → World → Prop := fun jX v W => match jX with | 0 => v = .pointer (some ⟨Ba, 3, none⟩) | 1 => v = .slice (some ⟨g, o, none⟩) m cap | 2 => v = .int .i64 (j : Int) | 3 => v = .pointer (some ⟨g, o + j * 4, none⟩) | 4 => v = .agg #[.int .i64 x.k, .int .i64 x.n, .string x.t, .slice x.a x.ks.length x.cap] | 5 => v = .pointer (some ⟨Bb, 3, none⟩) | 6 => v = .slice (some ⟨g2, o2, none⟩) m cap2 | 7 => v = .int .i64 (j : Int) | 8 => v = .pointer (some ⟨g2, o2 + j * 4, none⟩) | 9 => v = .agg #[.int .i64 y.k, .int .i64 y.n, .string y.t, .slice y.a y.ks.length y.cap] | 10 => v = .bool q | 11 => v = .bool (!q) | _ => True
        refine wp_region_fill (by kernel_rfl) V (fun W => Below W1.heap.size W1 W) R (by kernel_rfl) (by kernel_rfl) (HB.out.drew) (fun W W2 hr hi => hi.trans (hr.mono hi.size)) ?_ ?_ ?_
        · intro jX v W W2 hr h
          match jX, h with
          | 0, h => exact h
          | 1, h => exact h
          | 2, h => exact h
          | 3, h => exact h
          | 4, h => exact h
          | 5, h => exact h
          | 6, h => exact h
          | 7, h => exact h
          | 8, h => exact h
          | 9, h => exact h
          | 10, h => exact h
          | 11, h => exact h
          | nX + 12, h => exact h
        · intro iX o ho a W hN hi h
          match iX, ho with
          | 0, ho =>
            obtain rfl := Option.some.inj (show some _ = some o from ho)
            have e2 : a.eval (.tmp 2) = .pointer (some ⟨Ba, 0, none⟩) := hN.eval 2 (by kernel_rfl)
            refine fill_value (v := .pointer (some ⟨Ba, 3, none⟩)) ho rfl (by rfl) (by clear h hN; have hcst : ∀ v, a.eval (.const v) = v := (fun _ => rfl); have hfun : ∀ f, a.eval (.func f) = .func (.func f) #[] #[] := (fun _ => rfl); generalize a.eval = ρ at *; go_simp) rfl (Below.refl _ _)
          | 1, ho =>
            obtain rfl := Option.some.inj (show some _ = some o from ho)
            have e41 : a.eval (.tmp 41) = .pointer (some ⟨Ba, 3, none⟩) := h ⟨0, .data⟩ (by simp) rfl
            obtain ⟨b0, b1, b2, b3⟩ := HBa.out W hi
            refine fill_value (v := .slice (some ⟨g, o, none⟩) m cap) ho rfl (by rfl) (by clear h hN; have hcst : ∀ v, a.eval (.const v) = v := (fun _ => rfl); have hfun : ∀ f, a.eval (.func f) = .func (.func f) #[] #[] := (fun _ => rfl); generalize a.eval = ρ at *; go_simp) rfl (Below.refl _ _)
          | 2, ho =>
            obtain rfl := Option.some.inj (show some _ = some o from ho)
            have e5 : a.eval (.tmp 5) = .int .i64 (j : Int) := hN.eval 5 (by kernel_rfl)
            refine fill_value (v := .int .i64 (j : Int)) ho rfl (by rfl) (by clear h hN; have hcst : ∀ v, a.eval (.const v) = v := (fun _ => rfl); have hfun : ∀ f, a.eval (.func f) = .func (.func f) #[] #[] := (fun _ => rfl); generalize a.eval = ρ at *; go_simp) rfl (Below.refl _ _)
          | 3, ho =>
            obtain rfl := Option.some.inj (show some _ = some o from ho)
            have e42 : a.eval (.tmp 42) = .slice (some ⟨g, o, none⟩) m cap := h ⟨1, .data⟩ (by simp) rfl
            have e43 : a.eval (.tmp 43) = .int .i64 (j : Int) := h ⟨2, .data⟩ (by simp) rfl
            refine fill_value (v := .pointer (some ⟨g, o + j * 4, none⟩)) ho rfl (by rfl) (by clear h hN; have hcst : ∀ v, a.eval (.const v) = v := (fun _ => rfl); have hfun : ∀ f, a.eval (.func f) = .func (.func f) #[] #[] := (fun _ => rfl); generalize a.eval = ρ at *; go_simp) rfl (Below.refl _ _)
          | 4, ho =>
            obtain rfl := Option.some.inj (show some _ = some o from ho)
            have e44 : a.eval (.tmp 44) = .pointer (some ⟨g, o + j * 4, none⟩) := h ⟨3, .data⟩ (by simp) rfl
            obtain ⟨d0, d1, d2, d3⟩ := HA1.out W hi
            refine fill_value (v := .agg #[.int .i64 x.k, .int .i64 x.n, .string x.t, .slice x.a x.ks.length x.cap]) ho rfl (by rfl) (by clear h hN; have hcst : ∀ v, a.eval (.const v) = v := (fun _ => rfl); have hfun : ∀ f, a.eval (.func f) = .func (.func f) #[] #[] := (fun _ => rfl); generalize a.eval = ρ at *; go_simp) rfl (Below.refl _ _)
          | 5, ho =>
            obtain rfl := Option.some.inj (show some _ = some o from ho)
            have e3 : a.eval (.tmp 3) = .pointer (some ⟨Bb, 0, none⟩) := hN.eval 3 (by kernel_rfl)
            refine fill_value (v := .pointer (some ⟨Bb, 3, none⟩)) ho rfl (by rfl) (by clear h hN; have hcst : ∀ v, a.eval (.const v) = v := (fun _ => rfl); have hfun : ∀ f, a.eval (.func f) = .func (.func f) #[] #[] := (fun _ => rfl); generalize a.eval = ρ at *; go_simp) rfl (Below.refl _ _)
          | 6, ho =>
            obtain rfl := Option.some.inj (show some _ = some o from ho)
            have e46 : a.eval (.tmp 46) = .pointer (some ⟨Bb, 3, none⟩) := h ⟨5, .data⟩ (by simp) rfl
            obtain ⟨b0, b1, b2, b3⟩ := HBb.out W hi
            refine fill_value (v := .slice (some ⟨g2, o2, none⟩) m cap2) ho rfl (by rfl) (by clear h hN; have hcst : ∀ v, a.eval (.const v) = v := (fun _ => rfl); have hfun : ∀ f, a.eval (.func f) = .func (.func f) #[] #[] := (fun _ => rfl); generalize a.eval = ρ at *; go_simp) rfl (Below.refl _ _)
          | 7, ho =>
            obtain rfl := Option.some.inj (show some _ = some o from ho)
            have e5 : a.eval (.tmp 5) = .int .i64 (j : Int) := hN.eval 5 (by kernel_rfl)
            refine fill_value (v := .int .i64 (j : Int)) ho rfl (by rfl) (by clear h hN; have hcst : ∀ v, a.eval (.const v) = v := (fun _ => rfl); have hfun : ∀ f, a.eval (.func f) = .func (.func f) #[] #[] := (fun _ => rfl); generalize a.eval = ρ at *; go_simp) rfl (Below.refl _ _)
          | 8, ho =>
            obtain rfl := Option.some.inj (show some _ = some o from ho)
            have e47 : a.eval (.tmp 47) = .slice (some ⟨g2, o2, none⟩) m cap2 := h ⟨6, .data⟩ (by simp) rfl
            have e48 : a.eval (.tmp 48) = .int .i64 (j : Int) := h ⟨7, .data⟩ (by simp) rfl
            refine fill_value (v := .pointer (some ⟨g2, o2 + j * 4, none⟩)) ho rfl (by rfl) (by clear h hN; have hcst : ∀ v, a.eval (.const v) = v := (fun _ => rfl); have hfun : ∀ f, a.eval (.func f) = .func (.func f) #[] #[] := (fun _ => rfl); generalize a.eval = ρ at *; go_simp) rfl (Below.refl _ _)
          | 9, ho =>
            obtain rfl := Option.some.inj (show some _ = some o from ho)
            have e49 : a.eval (.tmp 49) = .pointer (some ⟨g2, o2 + j * 4, none⟩) := h ⟨8, .data⟩ (by simp) rfl
            obtain ⟨d0, d1, d2, d3⟩ := HA2.out W hi
            refine fill_value (v := .agg #[.int .i64 y.k, .int .i64 y.n, .string y.t, .slice y.a y.ks.length y.cap]) ho rfl (by rfl) (by clear h hN; have hcst : ∀ v, a.eval (.const v) = v := (fun _ => rfl); have hfun : ∀ f, a.eval (.func f) = .func (.func f) #[] #[] := (fun _ => rfl); generalize a.eval = ρ at *; go_simp) rfl (Below.refl _ _)
          | 10, ho =>
            obtain rfl := Option.some.inj (show some _ = some o from ho)
            have e45 : a.eval (.tmp 45) = .agg #[.int .i64 x.k, .int .i64 x.n, .string x.t, .slice x.a x.ks.length x.cap] := h ⟨4, .data⟩ (by simp) rfl
            have e50 : a.eval (.tmp 50) = .agg #[.int .i64 y.k, .int .i64 y.n, .string y.t, .slice y.a y.ks.length y.cap] := h ⟨9, .data⟩ (by simp) rfl
            refine fill_enter (f := 15) (args := #[.agg #[.int .i64 x.k, .int .i64 x.n, .string x.t, .slice x.a x.ks.length x.cap], .agg #[.int .i64 y.k, .int .i64 y.n, .string y.t, .slice y.a y.ks.length y.cap]]) ho rfl (by rfl) (by clear h hN; have hcst : ∀ v, a.eval (.const v) = v := (fun _ => rfl); have hfun : ∀ f, a.eval (.func f) = .func (.func f) #[] #[] := (fun _ => rfl); generalize a.eval = ρ at *; go_simp) (HC.out W hi) ?_
            rintro e w2 ⟨rfl, hb3⟩
            exact ⟨_, rfl, rfl, hb3.out⟩
          | 11, ho =>
            obtain rfl := Option.some.inj (show some _ = some o from ho)
            have e51 : a.eval (.tmp 51) = .bool q := h ⟨10, .data⟩ (by simp) rfl
            refine fill_value (v := .bool (!q)) ho rfl (by rfl) (by clear h hN; have hcst : ∀ v, a.eval (.const v) = v := (fun _ => rfl); have hfun : ∀ f, a.eval (.func f) = .func (.func f) #[] #[] := (fun _ => rfl); generalize a.eval = ρ at *; go_simp) rfl (Below.refl _ _)
          | nX + 12, ho => exact absurd ho (by simp)
        · intro vals W hi h
          have u0 : vals 0 = .pointer (some ⟨Ba, 3, none⟩) := h 0 (by decide)
          have u1 : vals 1 = .slice (some ⟨g, o, none⟩) m cap := h 1 (by decide)
          have u2 : vals 2 = .int .i64 (j : Int) := h 2 (by decide)
          have u3 : vals 3 = .pointer (some ⟨g, o + j * 4, none⟩) := h 3 (by decide)
          have u4 : vals 4 = .agg #[.int .i64 x.k, .int .i64 x.n, .string x.t, .slice x.a x.ks.length x.cap] := h 4 (by decide)
          have u5 : vals 5 = .pointer (some ⟨Bb, 3, none⟩) := h 5 (by decide)
          have u6 : vals 6 = .slice (some ⟨g2, o2, none⟩) m cap2 := h 6 (by decide)
          have u7 : vals 7 = .int .i64 (j : Int) := h 7 (by decide)
          have u8 : vals 8 = .pointer (some ⟨g2, o2 + j * 4, none⟩) := h 8 (by decide)
          have u9 : vals 9 = .agg #[.int .i64 y.k, .int .i64 y.n, .string y.t, .slice y.a y.ks.length y.cap] := h 9 (by decide)
          have u10 : vals 10 = .bool q := h 10 (by decide)
          have u11 : vals 11 = .bool (!q) := h 11 (by decide)
          generalize hA : fill _ _ _ _ = A
          have hA2 : (Act.put (Act.put (Act.put (Act.put (Act.put (Act.put (Act.put (Act.put (Act.put (Act.put (Act.put (Act.put (_ : Act) (some 41) (vals 0)) (some 42) (vals 1)) (some 43) (vals 2)) (some 44) (vals 3)) (some 45) (vals 4)) (some 46) (vals 5)) (some 47) (vals 6)) (some 48) (vals 7)) (some 49) (vals 8)) (some 50) (vals 9)) (some 51) (vals 10)) (some 52) (vals 11)) = A := hA
          clear hA h V R
          rw [u0, u1, u2, u3, u4, u5, u6, u7, u8, u9, u10, u11] at hA2
          simp only [fill, Act.put, List.setIfInBounds_toArray, List.set_cons_succ, List.set_cons_zero] at hA2
          subst hA2
          clear u0 u1 u2 u3 u4 u5 u6 u7 u8 u9 u10 u11
          obtain ⟨w5, hw5⟩ : ∃ V2, V2 = W := ⟨_, rfl⟩
          subst hw5
          have HB5 := Lib.hid hi
          clear hi
          cases q with
          | false =>
            have HNo2 := Lib.hid (HNo.out rfl)
            have HB6 := Lib.hid (HB1.out.trans (HB5.out.mono HB1.out.size))
            go_wp2_with fail
            go_ret
            exact ⟨by rw [HNo2.out]; rfl, by first | exact HB6 | exact (HSa.out trivial) ▸ HB6⟩
          | true =>
            have HS2 := Lib.hid (HS.out rfl)
            clear HNo HS HC HA1 HA2
            go_wp2_with fail
            go_roundw
            case rel => exact ⟨j + 1, by go_num, by omega, HS2, HB5⟩
            case measure => simp [intOf]; omega
      · obtain rfl : j = m := by omega
        have HT : Hid (eqT (.mk k n t (ks.map er)) (.mk k n t (ks2.map er)) = true) := Lib.hid (eqT_yes (by
          have e := HD.out
          have h1 := HM.out
          rw [List.take_of_length_le (by omega), List.take_of_length_le (by omega)] at e
          rw [e]))
        have HB9 : Hid (Below W.heap.size W wr) := Lib.hid (HB1.out.trans (HB.out.mono HB1.out.size))
        go_wp2_with fail
        go_ret
        exact ⟨by rw [HT.out]; rfl, HB9⟩
end Go.Proofs.YtpacjcgpeomnaaaDoor
