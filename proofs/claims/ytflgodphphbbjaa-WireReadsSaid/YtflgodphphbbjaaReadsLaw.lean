/- The walk of the law WireReads. -/
import Derived.Test.YtflgodphphbbjaaReadsT
import Derived.Test.YtflgodphphbbjaaReg
namespace Go.Proofs.Ytflgodphphbbjaa
open Go.ChangeShapes Go.WideShapes Go.ChangeAt Go.RowKit Go.Lib
set_option linter.unusedVariables false

set_option maxRecDepth 100000 in
set_option maxHeartbeats 4000000 in
theorem reads_long (a0 : Option Addr) (len0 cap0 : Nat) (a1 : Option Addr) (len1 cap1 : Nat) (w : World) (hl : 3000 < len0) :
    Calls Try.prog 4 #[.slice a0 len0 cap0, .slice a1 len1 cap1] w fun e w' => e = .returned (.bool true) ∧ Below w.heap.size w w' := by
  have HW := Lib.hid (fun W => wires_any W)
  go_enter Try.func4, Try.ntmps4
  go_wp2_with (first
    | (go_at_call 13; refine (none_any _).mono ?_; rintro e w' ⟨rfl, rfl⟩)
    | (go_at_call 14; refine (fail_nil _ _).mono ?_; rintro e w' ⟨rfl, rfl⟩))
  refine (HW.out _).mono ?_
  rintro e w1 ⟨rfl, hb1'⟩
  have hb1 := Lib.hid hb1'
  clear hb1'
  go_wp2_with (first
    | (go_at_call 13; refine (none_any _).mono ?_; rintro e w' ⟨rfl, rfl⟩)
    | (go_at_call 15; refine (num_nil _ _ _).mono ?_; rintro e w' ⟨rfl, rfl⟩)
    | (go_at_call 16; refine (err_nil _).mono ?_; rintro e w' ⟨rfl, rfl⟩)
    | (go_at_call 17; refine (end_nil _).mono ?_; rintro e w' ⟨rfl, rfl⟩)
    | (go_at_call 18; refine (left_nil _).mono ?_; rintro e w' ⟨rfl, rfl⟩)
    | (go_at_call 19; refine (str_nil _ _).mono ?_; rintro e w' ⟨rfl, rfl⟩))
  refine (HW.out _).mono ?_
  rintro e w2 ⟨rfl, hb2'⟩
  have hb2 := Lib.hid hb2'
  clear hb2'
  go_wp2_with (first
    | (go_at_call 13; refine (none_any _).mono ?_; rintro e w' ⟨rfl, rfl⟩)
    | (go_at_call 16; refine (err_nil _).mono ?_; rintro e w' ⟨rfl, rfl⟩))
  go_ret
  exact ⟨rfl, chain2 hb1.out hb2.out⟩
set_option maxRecDepth 100000 in
set_option maxHeartbeats 40000000 in
theorem reads_short (a0 : Option Addr) (n cap0 : Nat) (a1 : Option Addr) (len1 cap1 : Nat) (w : World) (hl : n ≤ 3000) (s : ByteArray) (hs : s.size = n) (hS : Src w a0 (bytesOf s)) (hA : (a0 = none ∧ cap0 = 0 ∧ n = 0) ∨ ∃ x, a0 = some x) (hl1 : len1 ≤ 9223372036854775807)
    (X A B : Nat → Int) (hT : TakesAt w a1 len1 X A B) (hX : ∀ i, -9223372036854775808 ≤ X i ∧ X i ≤ 9223372036854775807) (hAi : ∀ i, -9223372036854775808 ≤ A i ∧ A i ≤ 9223372036854775807) :
    Calls Try.prog 4 #[.slice a0 n cap0, .slice a1 len1 cap1] w fun e w' => e = .returned (.bool true) ∧ Below w.heap.size w w' := by
  have HW := Lib.hid (fun W => wires_any W)
  have HS := Lib.hid hS
  have HA := Lib.hid hA
  have HT := Lib.hid hT
  have HX := Lib.hid (fun i (_ : True) => hX i)
  have HAi := Lib.hid (fun i (_ : True) => hAi i)
  have HSn := Lib.hid (fun _ : True => hs)
  have hbl : (bytesOf s).length = n := by rw [bytesOf_len, hs]
  have HBl := Lib.hid (fun _ : True => hbl)
  have HConv := Lib.hid (src_conv (n := n) (cap := cap0) hbl hS (fun _ e => by rcases hA with h | ⟨x, h⟩; exact h.2.1; rw [h] at e; cases e))
  rw [sv_bytesOf] at HConv
  clear hS hA hT hX hAi hbl hs
  go_enter Try.func4, Try.ntmps4
  go_wp2_with (first
    | (go_at_call 13; refine (none_any _).mono ?_; rintro e w' ⟨rfl, rfl⟩)
    | (go_at_call 14; refine (fail_nil _ _).mono ?_; rintro e w' ⟨rfl, rfl⟩))
  refine (HW.out _).mono ?_
  rintro e w1 ⟨rfl, hb1'⟩
  have hb1 := Lib.hid hb1'
  have hq1 : w.heap.size ≤ (w1.alloc (Obj.cells #[] 5)).heap.size := Nat.le_trans hb1'.size (by simp)
  have hq1 := Lib.hid hq1
  clear hb1'
  go_wp2_with (first
    | (go_at_call 13; refine (none_any _).mono ?_; rintro e w' ⟨rfl, rfl⟩)
    | (go_at_call 15; refine (num_nil _ _ _).mono ?_; rintro e w' ⟨rfl, rfl⟩)
    | (go_at_call 16; refine (err_nil _).mono ?_; rintro e w' ⟨rfl, rfl⟩)
    | (go_at_call 17; refine (end_nil _).mono ?_; rintro e w' ⟨rfl, rfl⟩)
    | (go_at_call 18; refine (left_nil _).mono ?_; rintro e w' ⟨rfl, rfl⟩)
    | (go_at_call 19; refine (str_nil _ _).mono ?_; rintro e w' ⟨rfl, rfl⟩)
    | (at_builtin; refine wpList_append_in rfl (.tmp 52) (.tmp 53) rfl w.heap.size (.slice (some ⟨w1.heap.size, 0, none⟩) 0 0) rfl ⟨rfl, .inr ⟨w1.heap.size, 0, #[], rfl, hb1.out.size, Array.getElem?_push_size, Nat.zero_le _, by decide, rfl, rfl⟩⟩ a0 n cap0 rfl (bytesOf s) (HBl.out trivial) hl (src_later HS.out (hb1.out.alloc hb1.out.size _)) HA.out hq1.out ?_; intro v5 w5 hown' hb5'; have hown := Lib.hid hown'; have hb5 := Lib.hid ((hb1.out.alloc hb1.out.size _).trans hb5'); clear hown' hb5'))
  obtain ⟨sa, capa, hv5⟩ : ∃ sa capa, v5 = .slice sa n capa := by
    obtain ⟨sa, capa, e⟩ := own_form hown.out
    exact ⟨sa, capa, by rw [e, HBl.out trivial]⟩
  subst hv5
  have hrow5 : Hid (n = 0 ∨ ∃ ga xs, sa = some ⟨ga, 0, none⟩ ∧ ga < w5.heap.size ∧ w5.ownsRow w.heap.size 5 1 (.slice sa n capa) n xs) := Lib.hid (by
    rcases Nat.eq_zero_or_pos n with h0 | hp
    · exact .inl h0
    · obtain ⟨g, c, e, h1, h2, _⟩ := own_at hown.out (by rw [HBl.out trivial]; exact hp)
      cases e
      have := hown.out
      unfold Own at this
      rw [HBl.out trivial] at this
      exact .inr ⟨g, _, rfl, h2, this⟩)
  have hsrc5 : Hid (Src w5 sa (bytesOf s)) := Lib.hid (by
    rcases Nat.eq_zero_or_pos n with h0 | hp
    · intro h; rw [HBl.out trivial] at h; omega
    · obtain ⟨g, c, e, _, _, _, _, hat⟩ := own_at hown.out (by rw [HBl.out trivial]; exact hp)
      cases e
      exact src_of_at hat)
  clear hown HS HA hq1 hb1 HW
  let R : World → World → Prop := fun W W2 => Below W.heap.size W W2
  let V : Nat → Value → World → Prop := fun j v W => match j with | 0 => v = .slice sa n capa | 1 => ∃ gi1, v = .pointer (some ⟨gi1, 0, none⟩) ∧ w5.heap.size ≤ gi1 ∧ BoxB w5.heap.size W gi1 (bytesOf s) 0 | 2 => v = .slice a0 n cap0 | 3 => v = .string s | 4 => v = .agg #[.string s, .int .i64 0] | 5 => ∃ gm1, v = .pointer (some ⟨gm1, 0, none⟩) ∧ w5.heap.size ≤ gm1 ∧ RBox W gm1 s 0 | 6 => ∃ gi, v = .pointer (some ⟨gi, 0, none⟩) ∧ w5.heap.size ≤ gi ∧ BoxB w5.heap.size W gi (bytesOf s) 0 | 7 => ∃ gm, v = .pointer (some ⟨gm, 0, none⟩) ∧ w5.heap.size ≤ gm ∧ RBox W gm s 0 | _ => True
  refine wp_region_fill (by kernel_rfl) V (fun W => Below w5.heap.size w5 W) R (by kernel_rfl) (by kernel_rfl) ((Below.refl _ _).drew) (fun W W2 hr hi => hi.trans (hr.mono hi.size)) ?_ ?_ ?_
  · intro j v W W2 hr h
    match j, h with
    | 0, h => exact h
    | 1, h => obtain ⟨gi1, h1, h2⟩ := h; exact ⟨gi1, h1, ⟨h2.1, boxB_later h2.2 hr⟩⟩
    | 2, h => exact h
    | 3, h => exact h
    | 4, h => exact h
    | 5, h => obtain ⟨gm1, h1, h2⟩ := h; exact ⟨gm1, h1, ⟨h2.1, rbox_later h2.2 hr⟩⟩
    | 6, h => obtain ⟨gi, h1, h2⟩ := h; exact ⟨gi, h1, ⟨h2.1, boxB_later h2.2 hr⟩⟩
    | 7, h => obtain ⟨gm, h1, h2⟩ := h; exact ⟨gm, h1, ⟨h2.1, rbox_later h2.2 hr⟩⟩
    | n + 8, h => exact h
  · intro i o ho a W hN hi h
    match i, ho with
    | 0, ho =>
      obtain rfl := Option.some.inj (show some _ = some o from ho)
      have e5 : a.eval (.tmp 5) = .slice sa n capa := hN.eval 5 (by kernel_rfl)
      refine fill_value (v := .slice sa n capa) ho rfl (by rfl) (by clear h hN; have hcst : ∀ v, a.eval (.const v) = v := (fun _ => rfl); have hfun : ∀ f, a.eval (.func f) = .func (.func f) #[] #[] := (fun _ => rfl); generalize a.eval = ρ at *; go_simp) rfl (Below.refl _ _)
    | 1, ho =>
      obtain rfl := Option.some.inj (show some _ = some o from ho)
      have e55 : a.eval (.tmp 55) = .slice sa n capa := h ⟨0, .data⟩ (by simp) rfl
      refine fill_enter (f := 20) (args := #[.slice sa n capa]) ho rfl (by rfl) (by clear h hN; have hcst : ∀ v, a.eval (.const v) = v := (fun _ => rfl); have hfun : ∀ f, a.eval (.func f) = .func (.func f) #[] #[] := (fun _ => rfl); generalize a.eval = ρ at *; go_simp) (open_own sa capa n (bytesOf s) (HBl.out trivial) (by omega) W (Lib.hid (src_later hsrc5.out hi))) ?_
      rintro e w2 ⟨gi, rfl, hg1, hg2, hg3⟩
      exact ⟨_, rfl, ⟨gi, rfl, Nat.le_trans hi.size hg1, boxB_mono hg2 hi.size⟩, hg3⟩
    | 2, ho =>
      obtain rfl := Option.some.inj (show some _ = some o from ho)
      have e0 : a.eval (.tmp 0) = .slice a0 n cap0 := hN.eval 0 (by kernel_rfl)
      refine fill_value (v := .slice a0 n cap0) ho rfl (by rfl) (by clear h hN; have hcst : ∀ v, a.eval (.const v) = v := (fun _ => rfl); have hfun : ∀ f, a.eval (.func f) = .func (.func f) #[] #[] := (fun _ => rfl); generalize a.eval = ρ at *; go_simp) rfl (Below.refl _ _)
    | 3, ho =>
      obtain rfl := Option.some.inj (show some _ = some o from ho)
      have e57 : a.eval (.tmp 57) = .slice a0 n cap0 := h ⟨2, .data⟩ (by simp) rfl
      have hcv := HConv.out W (hb5.out.trans (hi.mono hb5.out.size))
      refine fill_value (v := .string s) ho rfl (by rfl) (by clear h hN; have hcst : ∀ v, a.eval (.const v) = v := (fun _ => rfl); have hfun : ∀ f, a.eval (.func f) = .func (.func f) #[] #[] := (fun _ => rfl); generalize a.eval = ρ at *; go_simp) rfl (Below.refl _ _)
    | 4, ho =>
      obtain rfl := Option.some.inj (show some _ = some o from ho)
      have e58 : a.eval (.tmp 58) = .string s := h ⟨3, .data⟩ (by simp) rfl
      refine fill_value (v := .agg #[.string s, .int .i64 0]) ho rfl (by rfl) (by clear h hN; have hcst : ∀ v, a.eval (.const v) = v := (fun _ => rfl); have hfun : ∀ f, a.eval (.func f) = .func (.func f) #[] #[] := (fun _ => rfl); generalize a.eval = ρ at *; go_simp) rfl (Below.refl _ _)
    | 5, ho =>
      obtain rfl := Option.some.inj (show some _ = some o from ho)
      have e59 : a.eval (.tmp 59) = .agg #[.string s, .int .i64 0] := h ⟨4, .data⟩ (by simp) rfl
      refine fill_value (v := .pointer (some ⟨W.heap.size, 0, none⟩)) (w' := W.alloc (.cells #[.string s, .int .i64 0] 40)) ho rfl (by rfl) (by clear h hN; have hcst : ∀ v, a.eval (.const v) = v := (fun _ => rfl); have hfun : ∀ f, a.eval (.func f) = .func (.func f) #[] #[] := (fun _ => rfl); generalize a.eval = ρ at *; go_simp) ⟨W.heap.size, rfl, hi.size, Array.getElem?_push_size⟩ ((Below.refl _ _).alloc (Nat.le_refl _) _)
    | 6, ho =>
      obtain rfl := Option.some.inj (show some _ = some o from ho)
      obtain ⟨gi1, e56, p56⟩ : ∃ gi1, a.eval (.tmp 56) = .pointer (some ⟨gi1, 0, none⟩) ∧ w5.heap.size ≤ gi1 ∧ BoxB w5.heap.size W gi1 (bytesOf s) 0 := h ⟨1, .data⟩ (by simp) rfl
      refine fill_value (v := .pointer (some ⟨gi1, 0, none⟩)) ho rfl (by rfl) (by clear h hN; have hcst : ∀ v, a.eval (.const v) = v := (fun _ => rfl); have hfun : ∀ f, a.eval (.func f) = .func (.func f) #[] #[] := (fun _ => rfl); generalize a.eval = ρ at *; go_simp) ⟨gi1, rfl, p56⟩ (Below.refl _ _)
    | 7, ho =>
      obtain rfl := Option.some.inj (show some _ = some o from ho)
      obtain ⟨gm1, e60, p60⟩ : ∃ gm1, a.eval (.tmp 60) = .pointer (some ⟨gm1, 0, none⟩) ∧ w5.heap.size ≤ gm1 ∧ RBox W gm1 s 0 := h ⟨5, .data⟩ (by simp) rfl
      refine fill_value (v := .pointer (some ⟨gm1, 0, none⟩)) ho rfl (by rfl) (by clear h hN; have hcst : ∀ v, a.eval (.const v) = v := (fun _ => rfl); have hfun : ∀ f, a.eval (.func f) = .func (.func f) #[] #[] := (fun _ => rfl); generalize a.eval = ρ at *; go_simp) ⟨gm1, rfl, p60⟩ (Below.refl _ _)
    | n + 8, ho => exact absurd ho (by simp)
  · intro vals W hi h
    have u0 : vals 0 = .slice sa n capa := h 0 (by decide)
    obtain ⟨gi1, u1, p1⟩ : ∃ gi1, vals 1 = .pointer (some ⟨gi1, 0, none⟩) ∧ w5.heap.size ≤ gi1 ∧ BoxB w5.heap.size W gi1 (bytesOf s) 0 := h 1 (by decide)
    have u2 : vals 2 = .slice a0 n cap0 := h 2 (by decide)
    have u3 : vals 3 = .string s := h 3 (by decide)
    have u4 : vals 4 = .agg #[.string s, .int .i64 0] := h 4 (by decide)
    obtain ⟨gm1, u5, p5⟩ : ∃ gm1, vals 5 = .pointer (some ⟨gm1, 0, none⟩) ∧ w5.heap.size ≤ gm1 ∧ RBox W gm1 s 0 := h 5 (by decide)
    obtain ⟨gi, u6, p6⟩ : ∃ gi, vals 6 = .pointer (some ⟨gi, 0, none⟩) ∧ w5.heap.size ≤ gi ∧ BoxB w5.heap.size W gi (bytesOf s) 0 := h 6 (by decide)
    obtain ⟨gm, u7, p7⟩ : ∃ gm, vals 7 = .pointer (some ⟨gm, 0, none⟩) ∧ w5.heap.size ≤ gm ∧ RBox W gm s 0 := h 7 (by decide)
    generalize hA : fill _ _ _ _ = A
    have hA2 : (Act.put (Act.put (Act.put (Act.put (Act.put (Act.put (Act.put (Act.put (_ : Act) (some 55) (vals 0)) (some 56) (vals 1)) (some 57) (vals 2)) (some 58) (vals 3)) (some 59) (vals 4)) (some 60) (vals 5)) (some 6) (vals 6)) (some 7) (vals 7)) = A := hA
    clear hA h V R
    rw [u0, u1, u2, u3, u4, u5, u6, u7] at hA2
    simp only [fill, Act.put, List.setIfInBounds_toArray, List.set_cons_succ, List.set_cons_zero] at hA2
    subst hA2
    clear u0 u1 u2 u3 u4 u5 u6 u7
    have hgi : w5.heap.size ≤ gi := p6.1
    have hgm : w5.heap.size ≤ gm := p7.1
    have hne : gi ≠ gm := boxes_ne p6.2 p7.2
    have hI7 : Hid (LInv w w5.heap.size W sa n capa gi gm s) := Lib.hid ⟨by
      rcases hrow5.out with h0 | ⟨ga, xs, e, h1, h2⟩
      · exact .inl h0
      · exact .inr ⟨ga, xs, e, h1, own_kept2 h2 hi⟩, p6.2, p7.2, hb5.out.trans (hi.mono hb5.out.size)⟩
    have hw5 : w.heap.size ≤ w5.heap.size := hb5.out.size
    clear p1 p5 p6 p7 hi hrow5 hsrc5 HConv hb5
    generalize w5.heap.size = B5 at *
    go_wp2_with fail
    go_loopw [8] (fun i wr => ∃ k : Nat, i = .int .i64 (k : Int) ∧ k ≤ n ∧ Hid (LInv w B5 wr sa n capa gi gm s)) (fun i _ => n - (intOf i).toNat)
    case atStart => exact ⟨0, rfl, by omega, hI7⟩
    case round =>
      clear hI7
      obtain ⟨k, rfl, hkn, hI⟩ := hrel
      by_cases hk : k < n
      · obtain ⟨ga, xs, rfl, hga, hrow⟩ : ∃ ga xs, sa = some ⟨ga, 0, none⟩ ∧ ga < B5 ∧ wr.ownsRow w.heap.size 5 1 (.slice sa n capa) n xs := by
          rcases hI.out.row with h0 | h
          · omega
          · exact h
        have hxl : k < xs.length := by have := hrow.1; omega
        have hc : wr.cell? ⟨ga, k, none⟩ = some xs[k] := by rw [World.ownsRow.cellAt hrow k (by omega)]; exact List.getElem?_eq_getElem _
        generalize xs[k] = old at hc
        have hf := World.ownsRow.frozenAt hrow k
        have hst := World.ownsRow.stored hrow k (.int .u8 170)
        have hgw : w.heap.size ≤ ga := own_ge hrow rfl
        have hnext : Hid (LInv w B5 (wr.setCell ⟨ga, k, none⟩ (.int .u8 170)) (some ⟨ga, 0, none⟩) n capa gi gm s) := Lib.hid ⟨.inr ⟨ga, _, rfl, hga, hst.1⟩, boxB_only hI.out.box (only_set (Only.refl _ _) k _) hga (by omega), rbox_keep hI.out.rbox (only_set (Only.refl _ _) k _) (by omega), hI.out.below.setCell (p := ⟨ga, k, none⟩) hgw _⟩
        clear hst hrow hI hxl
        have hi0 : (0 : Int) ≤ (k : Int) := Int.natCast_nonneg k
        have hi1 : (k : Int) < (n : Int) := by omega
        go_wp2_with fail
        go_roundw
        case rel => exact ⟨k + 1, by go_num, by omega, hnext⟩
        case measure => simp [intOf]; omega
      · obtain rfl : k = n := by omega
        have hM : Hid (MInv w wr gi gm s 0) := Lib.hid ⟨boxB_box hI.out.box, hI.out.rbox, by rw [HSn.out trivial]; exact hl, hI.out.below⟩
        have hgi' : w.heap.size ≤ gi := by omega
        have hgm' : w.heap.size ≤ gm := by omega
        clear hI hk HSn HBl
        go_wp2_with fail
        go_loopw [9] (fun i wr => ∃ (j : Nat) (t : ByteArray) (err : Int), i = .int .i64 (j : Int) ∧ j ≤ 60 ∧ j ≤ len1 ∧ Hid (MInv w wr gi gm t err)) (fun i _ => 60 - (intOf i).toNat)
        case atStart => exact ⟨0, s, 0, rfl, by omega, by omega, hM⟩
        case round =>
          clear hM
          obtain ⟨j, t, err, rfl, hj60, hjl, hI⟩ := hrel
          by_cases hj : j < len1 ∧ j < 60
          · obtain ⟨hj1, hj2⟩ := hj
            obtain ⟨gt, ot, rfl, c0, c1, c2⟩ := takes_later HT.out hI.out.below j hj1
            obtain ⟨q, hq4, hq⟩ := rem4 (X j)
            obtain ⟨x, hx⟩ : ∃ x, X j = x := ⟨_, rfl⟩
            obtain ⟨aa, ha⟩ : ∃ aa, A j = aa := ⟨_, rfl⟩
            obtain ⟨bb, hb⟩ : ∃ bb, B j = bb := ⟨_, rfl⟩
            have hxb := HX.out j trivial
            have hab := HAi.out j trivial
            rw [hx] at c0 hq hxb
            rw [ha] at c1 hab
            rw [hb] at c2
            clear hx ha hb
            have i0 : (0 : Int) ≤ (j : Int) := Int.natCast_nonneg j
            have i1 : (j : Int) < (len1 : Int) := by omega
            have i2 : (j : Int) < 60 := by omega
            rcases (by omega : q = 0 ∨ q = 1 ∨ q = 2 ∨ q = 3) with rfl | rfl | rfl | rfl
            · have hq0 : wrap64 ((IntKind.u64.wrap x).tmod 4) = 0 := hq
              clear hq
              go_wp2_with fail
              have hM3' : MInv w (wr.alloc (Obj.cells #[Value.int IntKind.i64 x, Value.int IntKind.i64 aa, Value.int IntKind.i64 bb] 42)) gi gm t err := minv_later hI.out ((Below.refl _ _).alloc (Nat.le_refl _) _)
              have hTk' : Tk (wr.alloc (Obj.cells #[Value.int IntKind.i64 x, Value.int IntKind.i64 aa, Value.int IntKind.i64 bb] 42)) wr.heap.size x aa bb := Array.getElem?_push_size
              have hg1 : wr.heap.size ≠ gi := Nat.ne_of_gt (box_lt hI.out.box)
              have hg2 : wr.heap.size ≠ gm := Nat.ne_of_gt (Array.getElem?_eq_some_iff.1 hI.out.rbox).1
              have hM3 := Lib.hid hM3'
              have hTk := Lib.hid hTk'
              clear hM3' hTk' hI c0 c1 c2
              generalize wr.alloc (Obj.cells #[Value.int IntKind.i64 x, Value.int IntKind.i64 aa, Value.int IntKind.i64 bb] 42) = w3 at *
              generalize wr.heap.size = gT at *
              let U : Nat → World → Prop := fun j W => match j with | 0 => True | 1 => True | 2 => True | 3 => True | 4 => True | 5 => Box W gi (bytesOf t) err | 6 => True | 7 => True | 8 => True | 9 => True | 10 => True | 11 => RBox W gm t err | 12 => True | _ => True
              let R : Nat → World → World → Prop := fun j W W2 => match j with | 0 => W = W2 | 1 => W = W2 | 2 => W = W2 | 3 => W = W2 | 4 => W = W2 | 5 => Only (· = gi) W W2 | 6 => W = W2 | 7 => W = W2 | 8 => W = W2 | 9 => W = W2 | 10 => W = W2 | 11 => Only (· = gm) W W2 | 12 => W = W2 | _ => W = W2
              let V : Nat → Value → World → Prop := fun j v W => match j with | 0 => v = .pointer (some ⟨gi, 0, none⟩) | 1 => v = .pointer (some ⟨gT, 1, none⟩) | 2 => v = .int .i64 aa | 3 => v = .pointer (some ⟨gT, 2, none⟩) | 4 => v = .int .i64 bb | 5 => v = .int .i64 (stN aa bb t err).1 ∧ Box W gi (bytesOf (stN aa bb t err).2.1) (stN aa bb t err).2.2 | 6 => v = .pointer (some ⟨gm, 0, none⟩) | 7 => v = .pointer (some ⟨gT, 1, none⟩) | 8 => v = .int .i64 aa | 9 => v = .pointer (some ⟨gT, 2, none⟩) | 10 => v = .int .i64 bb | 11 => v = .int .i64 (stN aa bb t err).1 ∧ RBox W gm (stN aa bb t err).2.1 (stN aa bb t err).2.2 | 12 => v = .bool false | _ => True
              refine wp_region_fill2 (by kernel_rfl) U V (fun W => Tk W gT x aa bb ∧ Below w.heap.size w W) R (by kernel_rfl) (by kernel_rfl) (⟨tk_later hTk.out ((Below.refl _ _).drew), hM3.out.below.trans ((Below.refl _ _).drew)⟩) ?_ ?_ ?_ ?_ ?_ ?_
              · intro j
                match j with
                | 0 => exact trivial
                | 1 => exact trivial
                | 2 => exact trivial
                | 3 => exact trivial
                | 4 => exact trivial
                | 5 => exact box_later hM3.out.box ((Below.refl _ _).drew)
                | 6 => exact trivial
                | 7 => exact trivial
                | 8 => exact trivial
                | 9 => exact trivial
                | 10 => exact trivial
                | 11 => exact rbox_later hM3.out.rbox ((Below.refl _ _).drew)
                | 12 => exact trivial
                | n + 13 => exact trivial
              · intro i W W2 hr hi
                match i, hr with
                | 0, hr => exact (show W = W2 from hr) ▸ hi
                | 1, hr => exact (show W = W2 from hr) ▸ hi
                | 2, hr => exact (show W = W2 from hr) ▸ hi
                | 3, hr => exact (show W = W2 from hr) ▸ hi
                | 4, hr => exact (show W = W2 from hr) ▸ hi
                | 5, hr => exact ⟨tk_keep hi.1 hr hg1, only_below2 hi.2 hr hgi' (Nat.le_refl _)⟩
                | 6, hr => exact (show W = W2 from hr) ▸ hi
                | 7, hr => exact (show W = W2 from hr) ▸ hi
                | 8, hr => exact (show W = W2 from hr) ▸ hi
                | 9, hr => exact (show W = W2 from hr) ▸ hi
                | 10, hr => exact (show W = W2 from hr) ▸ hi
                | 11, hr => exact ⟨tk_keep hi.1 hr hg2, only_below2 hi.2 hr hgm' (Nat.le_refl _)⟩
                | 12, hr => exact (show W = W2 from hr) ▸ hi
                | n + 13, hr => exact (show W = W2 from hr) ▸ hi
              · intro i j W W2 hij hi hui hr h
                match i, hij, hui, hr with
                | 0, hij, hui, hr => exact (show W = W2 from hr) ▸ h
                | 1, hij, hui, hr => exact (show W = W2 from hr) ▸ h
                | 2, hij, hui, hr => exact (show W = W2 from hr) ▸ h
                | 3, hij, hui, hr => exact (show W = W2 from hr) ▸ h
                | 4, hij, hui, hr => exact (show W = W2 from hr) ▸ h
                | 5, hij, hui, hr =>
                  match j, hij, h with
                  | 0, hij, h => exact h
                  | 1, hij, h => exact h
                  | 2, hij, h => exact h
                  | 3, hij, h => exact h
                  | 4, hij, h => exact h
                  | 5, hij, h => exact absurd rfl hij
                  | 6, hij, h => exact h
                  | 7, hij, h => exact h
                  | 8, hij, h => exact h
                  | 9, hij, h => exact h
                  | 10, hij, h => exact h
                  | 11, hij, h => exact rbox_keep h hr (Ne.symm hne)
                  | 12, hij, h => exact h
                  | n + 13, hij, h => exact h
                | 6, hij, hui, hr => exact (show W = W2 from hr) ▸ h
                | 7, hij, hui, hr => exact (show W = W2 from hr) ▸ h
                | 8, hij, hui, hr => exact (show W = W2 from hr) ▸ h
                | 9, hij, hui, hr => exact (show W = W2 from hr) ▸ h
                | 10, hij, hui, hr => exact (show W = W2 from hr) ▸ h
                | 11, hij, hui, hr =>
                  match j, hij, h with
                  | 0, hij, h => exact h
                  | 1, hij, h => exact h
                  | 2, hij, h => exact h
                  | 3, hij, h => exact h
                  | 4, hij, h => exact h
                  | 5, hij, h => exact box_keep h hui hr hne
                  | 6, hij, h => exact h
                  | 7, hij, h => exact h
                  | 8, hij, h => exact h
                  | 9, hij, h => exact h
                  | 10, hij, h => exact h
                  | 11, hij, h => exact absurd rfl hij
                  | 12, hij, h => exact h
                  | n + 13, hij, h => exact h
                | 12, hij, hui, hr => exact (show W = W2 from hr) ▸ h
                | n + 13, hij, hui, hr => exact (show W = W2 from hr) ▸ h
              · intro i j v W W2 hij hi hui hr h
                match i, hij, hui, hr with
                | 0, hij, hui, hr => exact (show W = W2 from hr) ▸ h
                | 1, hij, hui, hr => exact (show W = W2 from hr) ▸ h
                | 2, hij, hui, hr => exact (show W = W2 from hr) ▸ h
                | 3, hij, hui, hr => exact (show W = W2 from hr) ▸ h
                | 4, hij, hui, hr => exact (show W = W2 from hr) ▸ h
                | 5, hij, hui, hr =>
                  match j, hij, h with
                  | 0, hij, h => exact h
                  | 1, hij, h => exact h
                  | 2, hij, h => exact h
                  | 3, hij, h => exact h
                  | 4, hij, h => exact h
                  | 5, hij, h => exact absurd rfl hij
                  | 6, hij, h => exact h
                  | 7, hij, h => exact h
                  | 8, hij, h => exact h
                  | 9, hij, h => exact h
                  | 10, hij, h => exact h
                  | 11, hij, h => exact ⟨h.1, rbox_keep h.2 hr (Ne.symm hne)⟩
                  | 12, hij, h => exact h
                  | n + 13, hij, h => exact h
                | 6, hij, hui, hr => exact (show W = W2 from hr) ▸ h
                | 7, hij, hui, hr => exact (show W = W2 from hr) ▸ h
                | 8, hij, hui, hr => exact (show W = W2 from hr) ▸ h
                | 9, hij, hui, hr => exact (show W = W2 from hr) ▸ h
                | 10, hij, hui, hr => exact (show W = W2 from hr) ▸ h
                | 11, hij, hui, hr =>
                  match j, hij, h with
                  | 0, hij, h => exact h
                  | 1, hij, h => exact h
                  | 2, hij, h => exact h
                  | 3, hij, h => exact h
                  | 4, hij, h => exact h
                  | 5, hij, h => exact ⟨h.1, box_keep h.2 hui hr hne⟩
                  | 6, hij, h => exact h
                  | 7, hij, h => exact h
                  | 8, hij, h => exact h
                  | 9, hij, h => exact h
                  | 10, hij, h => exact h
                  | 11, hij, h => exact absurd rfl hij
                  | 12, hij, h => exact h
                  | n + 13, hij, h => exact h
                | 12, hij, hui, hr => exact (show W = W2 from hr) ▸ h
                | n + 13, hij, hui, hr => exact (show W = W2 from hr) ▸ h
              · intro i o ho a W hN hi hui h
                match i, ho, hui with
                | 0, ho, hui =>
                  obtain rfl := Option.some.inj (show some _ = some o from ho)
                  have e6 : a.eval (.tmp 6) = .pointer (some ⟨gi, 0, none⟩) := hN.eval 6 (by kernel_rfl)
                  refine fill_value (v := .pointer (some ⟨gi, 0, none⟩)) ho rfl (by rfl) (by clear h hN; have hcst : ∀ v, a.eval (.const v) = v := (fun _ => rfl); have hfun : ∀ f, a.eval (.func f) = .func (.func f) #[] #[] := (fun _ => rfl); generalize a.eval = ρ at *; go_simp) rfl (show W = W from rfl)
                | 1, ho, hui =>
                  obtain rfl := Option.some.inj (show some _ = some o from ho)
                  have e10 : a.eval (.tmp 10) = .pointer (some ⟨gT, 0, none⟩) := hN.eval 10 (by kernel_rfl)
                  refine fill_value (v := .pointer (some ⟨gT, 1, none⟩)) ho rfl (by rfl) (by clear h hN; have hcst : ∀ v, a.eval (.const v) = v := (fun _ => rfl); have hfun : ∀ f, a.eval (.func f) = .func (.func f) #[] #[] := (fun _ => rfl); generalize a.eval = ρ at *; go_simp) rfl (show W = W from rfl)
                | 2, ho, hui =>
                  obtain rfl := Option.some.inj (show some _ = some o from ho)
                  have e92 : a.eval (.tmp 92) = .pointer (some ⟨gT, 1, none⟩) := h ⟨1, .data⟩ (by simp) rfl
                  have hc := tk1 hi.1
                  refine fill_value (v := .int .i64 aa) ho rfl (by rfl) (by clear h hN; have hcst : ∀ v, a.eval (.const v) = v := (fun _ => rfl); have hfun : ∀ f, a.eval (.func f) = .func (.func f) #[] #[] := (fun _ => rfl); generalize a.eval = ρ at *; go_simp) rfl (show W = W from rfl)
                | 3, ho, hui =>
                  obtain rfl := Option.some.inj (show some _ = some o from ho)
                  have e10 : a.eval (.tmp 10) = .pointer (some ⟨gT, 0, none⟩) := hN.eval 10 (by kernel_rfl)
                  refine fill_value (v := .pointer (some ⟨gT, 2, none⟩)) ho rfl (by rfl) (by clear h hN; have hcst : ∀ v, a.eval (.const v) = v := (fun _ => rfl); have hfun : ∀ f, a.eval (.func f) = .func (.func f) #[] #[] := (fun _ => rfl); generalize a.eval = ρ at *; go_simp) rfl (show W = W from rfl)
                | 4, ho, hui =>
                  obtain rfl := Option.some.inj (show some _ = some o from ho)
                  have e94 : a.eval (.tmp 94) = .pointer (some ⟨gT, 2, none⟩) := h ⟨3, .data⟩ (by simp) rfl
                  have hc := tk2 hi.1
                  refine fill_value (v := .int .i64 bb) ho rfl (by rfl) (by clear h hN; have hcst : ∀ v, a.eval (.const v) = v := (fun _ => rfl); have hfun : ∀ f, a.eval (.func f) = .func (.func f) #[] #[] := (fun _ => rfl); generalize a.eval = ρ at *; go_simp) rfl (show W = W from rfl)
                | 5, ho, hui =>
                  obtain rfl := Option.some.inj (show some _ = some o from ho)
                  have e91 : a.eval (.tmp 91) = .pointer (some ⟨gi, 0, none⟩) := h ⟨0, .data⟩ (by simp) rfl
                  have e93 : a.eval (.tmp 93) = .int .i64 aa := h ⟨2, .data⟩ (by simp) rfl
                  have e95 : a.eval (.tmp 95) = .int .i64 bb := h ⟨4, .data⟩ (by simp) rfl
                  refine fill_enter (f := 15) (args := #[.pointer (some ⟨gi, 0, none⟩), .int .i64 aa, .int .i64 bb]) ho rfl (by rfl) (by clear h hN; have hcst : ∀ v, a.eval (.const v) = v := (fun _ => rfl); have hfun : ∀ f, a.eval (.func f) = .func (.func f) #[] #[] := (fun _ => rfl); generalize a.eval = ρ at *; go_simp) (inNum_tot gi t err W hM3.out.size aa bb (Lib.hid hui)) ?_
                  rintro e w2 ⟨rfl, h5, h6⟩
                  exact ⟨_, rfl, ⟨rfl, h5⟩, h6⟩
                | 6, ho, hui =>
                  obtain rfl := Option.some.inj (show some _ = some o from ho)
                  have e7 : a.eval (.tmp 7) = .pointer (some ⟨gm, 0, none⟩) := hN.eval 7 (by kernel_rfl)
                  refine fill_value (v := .pointer (some ⟨gm, 0, none⟩)) ho rfl (by rfl) (by clear h hN; have hcst : ∀ v, a.eval (.const v) = v := (fun _ => rfl); have hfun : ∀ f, a.eval (.func f) = .func (.func f) #[] #[] := (fun _ => rfl); generalize a.eval = ρ at *; go_simp) rfl (show W = W from rfl)
                | 7, ho, hui =>
                  obtain rfl := Option.some.inj (show some _ = some o from ho)
                  have e10 : a.eval (.tmp 10) = .pointer (some ⟨gT, 0, none⟩) := hN.eval 10 (by kernel_rfl)
                  refine fill_value (v := .pointer (some ⟨gT, 1, none⟩)) ho rfl (by rfl) (by clear h hN; have hcst : ∀ v, a.eval (.const v) = v := (fun _ => rfl); have hfun : ∀ f, a.eval (.func f) = .func (.func f) #[] #[] := (fun _ => rfl); generalize a.eval = ρ at *; go_simp) rfl (show W = W from rfl)
                | 8, ho, hui =>
                  obtain rfl := Option.some.inj (show some _ = some o from ho)
                  have e98 : a.eval (.tmp 98) = .pointer (some ⟨gT, 1, none⟩) := h ⟨7, .data⟩ (by simp) rfl
                  have hc := tk1 hi.1
                  refine fill_value (v := .int .i64 aa) ho rfl (by rfl) (by clear h hN; have hcst : ∀ v, a.eval (.const v) = v := (fun _ => rfl); have hfun : ∀ f, a.eval (.func f) = .func (.func f) #[] #[] := (fun _ => rfl); generalize a.eval = ρ at *; go_simp) rfl (show W = W from rfl)
                | 9, ho, hui =>
                  obtain rfl := Option.some.inj (show some _ = some o from ho)
                  have e10 : a.eval (.tmp 10) = .pointer (some ⟨gT, 0, none⟩) := hN.eval 10 (by kernel_rfl)
                  refine fill_value (v := .pointer (some ⟨gT, 2, none⟩)) ho rfl (by rfl) (by clear h hN; have hcst : ∀ v, a.eval (.const v) = v := (fun _ => rfl); have hfun : ∀ f, a.eval (.func f) = .func (.func f) #[] #[] := (fun _ => rfl); generalize a.eval = ρ at *; go_simp) rfl (show W = W from rfl)
                | 10, ho, hui =>
                  obtain rfl := Option.some.inj (show some _ = some o from ho)
                  have e100 : a.eval (.tmp 100) = .pointer (some ⟨gT, 2, none⟩) := h ⟨9, .data⟩ (by simp) rfl
                  have hc := tk2 hi.1
                  refine fill_value (v := .int .i64 bb) ho rfl (by rfl) (by clear h hN; have hcst : ∀ v, a.eval (.const v) = v := (fun _ => rfl); have hfun : ∀ f, a.eval (.func f) = .func (.func f) #[] #[] := (fun _ => rfl); generalize a.eval = ρ at *; go_simp) rfl (show W = W from rfl)
                | 11, ho, hui =>
                  obtain rfl := Option.some.inj (show some _ = some o from ho)
                  have e97 : a.eval (.tmp 97) = .pointer (some ⟨gm, 0, none⟩) := h ⟨6, .data⟩ (by simp) rfl
                  have e99 : a.eval (.tmp 99) = .int .i64 aa := h ⟨8, .data⟩ (by simp) rfl
                  have e101 : a.eval (.tmp 101) = .int .i64 bb := h ⟨10, .data⟩ (by simp) rfl
                  refine fill_enter (f := 21) (args := #[.pointer (some ⟨gm, 0, none⟩), .int .i64 aa, .int .i64 bb]) ho rfl (by rfl) (by clear h hN; have hcst : ∀ v, a.eval (.const v) = v := (fun _ => rfl); have hfun : ∀ f, a.eval (.func f) = .func (.func f) #[] #[] := (fun _ => rfl); generalize a.eval = ρ at *; go_simp) (refInNum_tot gm t err W hM3.out.size aa bb (Lib.hid hui)) ?_
                  rintro e w2 ⟨rfl, h5, h6⟩
                  exact ⟨_, rfl, ⟨rfl, h5⟩, h6⟩
                | 12, ho, hui =>
                  obtain rfl := Option.some.inj (show some _ = some o from ho)
                  obtain ⟨e96, p96⟩ : a.eval (.tmp 96) = .int .i64 (stN aa bb t err).1 ∧ Box W gi (bytesOf (stN aa bb t err).2.1) (stN aa bb t err).2.2 := h ⟨5, .data⟩ (by simp) rfl
                  obtain ⟨e102, p102⟩ : a.eval (.tmp 102) = .int .i64 (stN aa bb t err).1 ∧ RBox W gm (stN aa bb t err).2.1 (stN aa bb t err).2.2 := h ⟨11, .data⟩ (by simp) rfl
                  refine fill_value (v := .bool false) ho rfl (by rfl) (by clear h hN; have hcst : ∀ v, a.eval (.const v) = v := (fun _ => rfl); have hfun : ∀ f, a.eval (.func f) = .func (.func f) #[] #[] := (fun _ => rfl); generalize a.eval = ρ at *; go_simp) rfl (show W = W from rfl)
                | n + 13, ho, hui => exact absurd ho (by simp)
              · intro vals W hi h
                have u0 : vals 0 = .pointer (some ⟨gi, 0, none⟩) := h 0 (by decide)
                have u1 : vals 1 = .pointer (some ⟨gT, 1, none⟩) := h 1 (by decide)
                have u2 : vals 2 = .int .i64 aa := h 2 (by decide)
                have u3 : vals 3 = .pointer (some ⟨gT, 2, none⟩) := h 3 (by decide)
                have u4 : vals 4 = .int .i64 bb := h 4 (by decide)
                obtain ⟨u5, p5⟩ : vals 5 = .int .i64 (stN aa bb t err).1 ∧ Box W gi (bytesOf (stN aa bb t err).2.1) (stN aa bb t err).2.2 := h 5 (by decide)
                have u6 : vals 6 = .pointer (some ⟨gm, 0, none⟩) := h 6 (by decide)
                have u7 : vals 7 = .pointer (some ⟨gT, 1, none⟩) := h 7 (by decide)
                have u8 : vals 8 = .int .i64 aa := h 8 (by decide)
                have u9 : vals 9 = .pointer (some ⟨gT, 2, none⟩) := h 9 (by decide)
                have u10 : vals 10 = .int .i64 bb := h 10 (by decide)
                obtain ⟨u11, p11⟩ : vals 11 = .int .i64 (stN aa bb t err).1 ∧ RBox W gm (stN aa bb t err).2.1 (stN aa bb t err).2.2 := h 11 (by decide)
                have u12 : vals 12 = .bool false := h 12 (by decide)
                generalize hA : fill _ _ _ _ = A
                have hA2 : (Act.put (Act.put (Act.put (Act.put (Act.put (Act.put (Act.put (Act.put (Act.put (Act.put (Act.put (Act.put (Act.put (_ : Act) (some 91) (vals 0)) (some 92) (vals 1)) (some 93) (vals 2)) (some 94) (vals 3)) (some 95) (vals 4)) (some 96) (vals 5)) (some 97) (vals 6)) (some 98) (vals 7)) (some 99) (vals 8)) (some 100) (vals 9)) (some 101) (vals 10)) (some 102) (vals 11)) (some 103) (vals 12)) = A := hA
                clear hA h V R U
                rw [u0, u1, u2, u3, u4, u5, u6, u7, u8, u9, u10, u11, u12] at hA2
                simp only [fill, Act.put, List.setIfInBounds_toArray, List.set_cons_succ, List.set_cons_zero] at hA2
                subst hA2
                clear u0 u1 u2 u3 u4 u5 u6 u7 u8 u9 u10 u11 u12
                have hM4 : Hid (MInv w W gi gm (stN aa bb t err).2.1 (stN aa bb t err).2.2) := Lib.hid ⟨p5, p11, Nat.le_trans (stN_size aa bb t err) hM3.out.size, hi.2⟩
                clear p5 p11 hi hM3 hTk
                generalize (stN aa bb t err).2.1 = t4 at hM4
                generalize (stN aa bb t err).2.2 = err4 at hM4
                generalize (stN aa bb t err).1 = rv at *
                go_wp2_with fail
                let R : World → World → Prop := fun W W2 => W = W2
                let V : Nat → Value → World → Prop := fun j v W => match j with | 0 => v = .pointer (some ⟨gi, 0, none⟩) | 1 => v = .int .i64 err4 | 2 => v = .pointer (some ⟨gm, 0, none⟩) | 3 => v = .pointer (some ⟨gm, 0, none⟩) | 4 => v = .pointer (some ⟨gm, 1, none⟩) | 5 => v = .int .i64 err4 | 6 => v = .bool false | _ => True
                refine wp_region_fill (by kernel_rfl) V (fun W => MInv w W gi gm t4 err4) R (by kernel_rfl) (by kernel_rfl) (minv_later hM4.out ((Below.refl _ _).drew)) (fun W W2 hr hi => hr ▸ hi) ?_ ?_ ?_
                · intro j v W W2 hr h
                  match j, h with
                  | 0, h => exact h
                  | 1, h => exact h
                  | 2, h => exact h
                  | 3, h => exact h
                  | 4, h => exact h
                  | 5, h => exact h
                  | 6, h => exact h
                  | n + 7, h => exact h
                · intro i o ho a W hN hi h
                  match i, ho with
                  | 0, ho =>
                    obtain rfl := Option.some.inj (show some _ = some o from ho)
                    have e6 : a.eval (.tmp 6) = .pointer (some ⟨gi, 0, none⟩) := hN.eval 6 (by kernel_rfl)
                    refine fill_value (v := .pointer (some ⟨gi, 0, none⟩)) ho rfl (by rfl) (by clear h hN; have hcst : ∀ v, a.eval (.const v) = v := (fun _ => rfl); have hfun : ∀ f, a.eval (.func f) = .func (.func f) #[] #[] := (fun _ => rfl); generalize a.eval = ρ at *; go_simp) rfl (rfl)
                  | 1, ho =>
                    obtain rfl := Option.some.inj (show some _ = some o from ho)
                    have e145 : a.eval (.tmp 145) = .pointer (some ⟨gi, 0, none⟩) := h ⟨0, .data⟩ (by simp) rfl
                    refine fill_enter (f := 16) (args := #[.pointer (some ⟨gi, 0, none⟩)]) ho rfl (by rfl) (by clear h hN; have hcst : ∀ v, a.eval (.const v) = v := (fun _ => rfl); have hfun : ∀ f, a.eval (.func f) = .func (.func f) #[] #[] := (fun _ => rfl); generalize a.eval = ρ at *; go_simp) (err_any gi (bytesOf t4) err4 W (Lib.hid hi.box)) ?_
                    rintro e w2 ⟨rfl, rfl⟩
                    exact ⟨_, rfl, rfl, rfl⟩
                  | 2, ho =>
                    obtain rfl := Option.some.inj (show some _ = some o from ho)
                    have e7 : a.eval (.tmp 7) = .pointer (some ⟨gm, 0, none⟩) := hN.eval 7 (by kernel_rfl)
                    refine fill_value (v := .pointer (some ⟨gm, 0, none⟩)) ho rfl (by rfl) (by clear h hN; have hcst : ∀ v, a.eval (.const v) = v := (fun _ => rfl); have hfun : ∀ f, a.eval (.func f) = .func (.func f) #[] #[] := (fun _ => rfl); generalize a.eval = ρ at *; go_simp) rfl (rfl)
                  | 3, ho =>
                    obtain rfl := Option.some.inj (show some _ = some o from ho)
                    have e147 : a.eval (.tmp 147) = .pointer (some ⟨gm, 0, none⟩) := h ⟨2, .data⟩ (by simp) rfl
                    refine fill_value (v := .pointer (some ⟨gm, 0, none⟩)) ho rfl (by rfl) (by clear h hN; have hcst : ∀ v, a.eval (.const v) = v := (fun _ => rfl); have hfun : ∀ f, a.eval (.func f) = .func (.func f) #[] #[] := (fun _ => rfl); generalize a.eval = ρ at *; go_simp) rfl (rfl)
                  | 4, ho =>
                    obtain rfl := Option.some.inj (show some _ = some o from ho)
                    have e148 : a.eval (.tmp 148) = .pointer (some ⟨gm, 0, none⟩) := h ⟨3, .data⟩ (by simp) rfl
                    refine fill_value (v := .pointer (some ⟨gm, 1, none⟩)) ho rfl (by rfl) (by clear h hN; have hcst : ∀ v, a.eval (.const v) = v := (fun _ => rfl); have hfun : ∀ f, a.eval (.func f) = .func (.func f) #[] #[] := (fun _ => rfl); generalize a.eval = ρ at *; go_simp) rfl (rfl)
                  | 5, ho =>
                    obtain rfl := Option.some.inj (show some _ = some o from ho)
                    have e149 : a.eval (.tmp 149) = .pointer (some ⟨gm, 1, none⟩) := h ⟨4, .data⟩ (by simp) rfl
                    have hc5 := box_cell1 hi.rbox
                    refine fill_value (v := .int .i64 err4) ho rfl (by rfl) (by clear h hN; have hcst : ∀ v, a.eval (.const v) = v := (fun _ => rfl); have hfun : ∀ f, a.eval (.func f) = .func (.func f) #[] #[] := (fun _ => rfl); generalize a.eval = ρ at *; go_simp) rfl (rfl)
                  | 6, ho =>
                    obtain rfl := Option.some.inj (show some _ = some o from ho)
                    have e146 : a.eval (.tmp 146) = .int .i64 err4 := h ⟨1, .data⟩ (by simp) rfl
                    have e150 : a.eval (.tmp 150) = .int .i64 err4 := h ⟨5, .data⟩ (by simp) rfl
                    refine fill_value (v := .bool false) ho rfl (by rfl) (by clear h hN; have hcst : ∀ v, a.eval (.const v) = v := (fun _ => rfl); have hfun : ∀ f, a.eval (.func f) = .func (.func f) #[] #[] := (fun _ => rfl); generalize a.eval = ρ at *; go_simp) rfl (rfl)
                  | n + 7, ho => exact absurd ho (by simp)
                · intro vals W hi h
                  have u0 : vals 0 = .pointer (some ⟨gi, 0, none⟩) := h 0 (by decide)
                  have u1 : vals 1 = .int .i64 err4 := h 1 (by decide)
                  have u2 : vals 2 = .pointer (some ⟨gm, 0, none⟩) := h 2 (by decide)
                  have u3 : vals 3 = .pointer (some ⟨gm, 0, none⟩) := h 3 (by decide)
                  have u4 : vals 4 = .pointer (some ⟨gm, 1, none⟩) := h 4 (by decide)
                  have u5 : vals 5 = .int .i64 err4 := h 5 (by decide)
                  have u6 : vals 6 = .bool false := h 6 (by decide)
                  generalize hA : fill _ _ _ _ = A
                  have hA2 : (Act.put (Act.put (Act.put (Act.put (Act.put (Act.put (Act.put (_ : Act) (some 145) (vals 0)) (some 146) (vals 1)) (some 147) (vals 2)) (some 148) (vals 3)) (some 149) (vals 4)) (some 150) (vals 5)) (some 151) (vals 6)) = A := hA
                  clear hA h V R
                  rw [u0, u1, u2, u3, u4, u5, u6] at hA2
                  simp only [fill, Act.put, List.setIfInBounds_toArray, List.set_cons_succ, List.set_cons_zero] at hA2
                  subst hA2
                  clear u0 u1 u2 u3 u4 u5 u6
                  have hM5 := Lib.hid hi
                  clear hi hM4
                  go_wp2_with fail
                  go_roundw
                  case rel => exact ⟨j + 1, t4, err4, by go_num, by omega, by omega, hM5⟩
                  case measure => simp [intOf]; omega
            · have hq0 : wrap64 ((IntKind.u64.wrap x).tmod 4) = 1 := hq
              clear hq
              go_wp2_with fail
              have hM3' : MInv w (wr.alloc (Obj.cells #[Value.int IntKind.i64 x, Value.int IntKind.i64 aa, Value.int IntKind.i64 bb] 42)) gi gm t err := minv_later hI.out ((Below.refl _ _).alloc (Nat.le_refl _) _)
              have hTk' : Tk (wr.alloc (Obj.cells #[Value.int IntKind.i64 x, Value.int IntKind.i64 aa, Value.int IntKind.i64 bb] 42)) wr.heap.size x aa bb := Array.getElem?_push_size
              have hg1 : wr.heap.size ≠ gi := Nat.ne_of_gt (box_lt hI.out.box)
              have hg2 : wr.heap.size ≠ gm := Nat.ne_of_gt (Array.getElem?_eq_some_iff.1 hI.out.rbox).1
              have hM3 := Lib.hid hM3'
              have hTk := Lib.hid hTk'
              clear hM3' hTk' hI c0 c1 c2
              generalize wr.alloc (Obj.cells #[Value.int IntKind.i64 x, Value.int IntKind.i64 aa, Value.int IntKind.i64 bb] 42) = w3 at *
              generalize wr.heap.size = gT at *
              let U : Nat → World → Prop := fun j W => match j with | 0 => True | 1 => True | 2 => True | 3 => Box W gi (bytesOf t) err | 4 => True | 5 => True | 6 => True | 7 => RBox W gm t err | 8 => True | _ => True
              let R : Nat → World → World → Prop := fun j W W2 => match j with | 0 => W = W2 | 1 => W = W2 | 2 => W = W2 | 3 => Only (· = gi) W W2 | 4 => W = W2 | 5 => W = W2 | 6 => W = W2 | 7 => Only (· = gm) W W2 | 8 => W = W2 | _ => W = W2
              let V : Nat → Value → World → Prop := fun j v W => match j with | 0 => v = .pointer (some ⟨gi, 0, none⟩) | 1 => v = .pointer (some ⟨gT, 1, none⟩) | 2 => v = .int .i64 aa | 3 => v = .string (stS aa t err).1 ∧ Box W gi (bytesOf (stS aa t err).2.1) (stS aa t err).2.2 | 4 => v = .pointer (some ⟨gm, 0, none⟩) | 5 => v = .pointer (some ⟨gT, 1, none⟩) | 6 => v = .int .i64 aa | 7 => v = .string (stS aa t err).1 ∧ RBox W gm (stS aa t err).2.1 (stS aa t err).2.2 | 8 => v = .bool false | _ => True
              refine wp_region_fill2 (by kernel_rfl) U V (fun W => Tk W gT x aa bb ∧ Below w.heap.size w W) R (by kernel_rfl) (by kernel_rfl) (⟨tk_later hTk.out ((Below.refl _ _).drew), hM3.out.below.trans ((Below.refl _ _).drew)⟩) ?_ ?_ ?_ ?_ ?_ ?_
              · intro j
                match j with
                | 0 => exact trivial
                | 1 => exact trivial
                | 2 => exact trivial
                | 3 => exact box_later hM3.out.box ((Below.refl _ _).drew)
                | 4 => exact trivial
                | 5 => exact trivial
                | 6 => exact trivial
                | 7 => exact rbox_later hM3.out.rbox ((Below.refl _ _).drew)
                | 8 => exact trivial
                | n + 9 => exact trivial
              · intro i W W2 hr hi
                match i, hr with
                | 0, hr => exact (show W = W2 from hr) ▸ hi
                | 1, hr => exact (show W = W2 from hr) ▸ hi
                | 2, hr => exact (show W = W2 from hr) ▸ hi
                | 3, hr => exact ⟨tk_keep hi.1 hr hg1, only_below2 hi.2 hr hgi' (Nat.le_refl _)⟩
                | 4, hr => exact (show W = W2 from hr) ▸ hi
                | 5, hr => exact (show W = W2 from hr) ▸ hi
                | 6, hr => exact (show W = W2 from hr) ▸ hi
                | 7, hr => exact ⟨tk_keep hi.1 hr hg2, only_below2 hi.2 hr hgm' (Nat.le_refl _)⟩
                | 8, hr => exact (show W = W2 from hr) ▸ hi
                | n + 9, hr => exact (show W = W2 from hr) ▸ hi
              · intro i j W W2 hij hi hui hr h
                match i, hij, hui, hr with
                | 0, hij, hui, hr => exact (show W = W2 from hr) ▸ h
                | 1, hij, hui, hr => exact (show W = W2 from hr) ▸ h
                | 2, hij, hui, hr => exact (show W = W2 from hr) ▸ h
                | 3, hij, hui, hr =>
                  match j, hij, h with
                  | 0, hij, h => exact h
                  | 1, hij, h => exact h
                  | 2, hij, h => exact h
                  | 3, hij, h => exact absurd rfl hij
                  | 4, hij, h => exact h
                  | 5, hij, h => exact h
                  | 6, hij, h => exact h
                  | 7, hij, h => exact rbox_keep h hr (Ne.symm hne)
                  | 8, hij, h => exact h
                  | n + 9, hij, h => exact h
                | 4, hij, hui, hr => exact (show W = W2 from hr) ▸ h
                | 5, hij, hui, hr => exact (show W = W2 from hr) ▸ h
                | 6, hij, hui, hr => exact (show W = W2 from hr) ▸ h
                | 7, hij, hui, hr =>
                  match j, hij, h with
                  | 0, hij, h => exact h
                  | 1, hij, h => exact h
                  | 2, hij, h => exact h
                  | 3, hij, h => exact box_keep h hui hr hne
                  | 4, hij, h => exact h
                  | 5, hij, h => exact h
                  | 6, hij, h => exact h
                  | 7, hij, h => exact absurd rfl hij
                  | 8, hij, h => exact h
                  | n + 9, hij, h => exact h
                | 8, hij, hui, hr => exact (show W = W2 from hr) ▸ h
                | n + 9, hij, hui, hr => exact (show W = W2 from hr) ▸ h
              · intro i j v W W2 hij hi hui hr h
                match i, hij, hui, hr with
                | 0, hij, hui, hr => exact (show W = W2 from hr) ▸ h
                | 1, hij, hui, hr => exact (show W = W2 from hr) ▸ h
                | 2, hij, hui, hr => exact (show W = W2 from hr) ▸ h
                | 3, hij, hui, hr =>
                  match j, hij, h with
                  | 0, hij, h => exact h
                  | 1, hij, h => exact h
                  | 2, hij, h => exact h
                  | 3, hij, h => exact absurd rfl hij
                  | 4, hij, h => exact h
                  | 5, hij, h => exact h
                  | 6, hij, h => exact h
                  | 7, hij, h => exact ⟨h.1, rbox_keep h.2 hr (Ne.symm hne)⟩
                  | 8, hij, h => exact h
                  | n + 9, hij, h => exact h
                | 4, hij, hui, hr => exact (show W = W2 from hr) ▸ h
                | 5, hij, hui, hr => exact (show W = W2 from hr) ▸ h
                | 6, hij, hui, hr => exact (show W = W2 from hr) ▸ h
                | 7, hij, hui, hr =>
                  match j, hij, h with
                  | 0, hij, h => exact h
                  | 1, hij, h => exact h
                  | 2, hij, h => exact h
                  | 3, hij, h => exact ⟨h.1, box_keep h.2 hui hr hne⟩
                  | 4, hij, h => exact h
                  | 5, hij, h => exact h
                  | 6, hij, h => exact h
                  | 7, hij, h => exact absurd rfl hij
                  | 8, hij, h => exact h
                  | n + 9, hij, h => exact h
                | 8, hij, hui, hr => exact (show W = W2 from hr) ▸ h
                | n + 9, hij, hui, hr => exact (show W = W2 from hr) ▸ h
              · intro i o ho a W hN hi hui h
                match i, ho, hui with
                | 0, ho, hui =>
                  obtain rfl := Option.some.inj (show some _ = some o from ho)
                  have e6 : a.eval (.tmp 6) = .pointer (some ⟨gi, 0, none⟩) := hN.eval 6 (by kernel_rfl)
                  refine fill_value (v := .pointer (some ⟨gi, 0, none⟩)) ho rfl (by rfl) (by clear h hN; have hcst : ∀ v, a.eval (.const v) = v := (fun _ => rfl); have hfun : ∀ f, a.eval (.func f) = .func (.func f) #[] #[] := (fun _ => rfl); generalize a.eval = ρ at *; go_simp) rfl (show W = W from rfl)
                | 1, ho, hui =>
                  obtain rfl := Option.some.inj (show some _ = some o from ho)
                  have e10 : a.eval (.tmp 10) = .pointer (some ⟨gT, 0, none⟩) := hN.eval 10 (by kernel_rfl)
                  refine fill_value (v := .pointer (some ⟨gT, 1, none⟩)) ho rfl (by rfl) (by clear h hN; have hcst : ∀ v, a.eval (.const v) = v := (fun _ => rfl); have hfun : ∀ f, a.eval (.func f) = .func (.func f) #[] #[] := (fun _ => rfl); generalize a.eval = ρ at *; go_simp) rfl (show W = W from rfl)
                | 2, ho, hui =>
                  obtain rfl := Option.some.inj (show some _ = some o from ho)
                  have e107 : a.eval (.tmp 107) = .pointer (some ⟨gT, 1, none⟩) := h ⟨1, .data⟩ (by simp) rfl
                  have hc := tk1 hi.1
                  refine fill_value (v := .int .i64 aa) ho rfl (by rfl) (by clear h hN; have hcst : ∀ v, a.eval (.const v) = v := (fun _ => rfl); have hfun : ∀ f, a.eval (.func f) = .func (.func f) #[] #[] := (fun _ => rfl); generalize a.eval = ρ at *; go_simp) rfl (show W = W from rfl)
                | 3, ho, hui =>
                  obtain rfl := Option.some.inj (show some _ = some o from ho)
                  have e106 : a.eval (.tmp 106) = .pointer (some ⟨gi, 0, none⟩) := h ⟨0, .data⟩ (by simp) rfl
                  have e108 : a.eval (.tmp 108) = .int .i64 aa := h ⟨2, .data⟩ (by simp) rfl
                  refine fill_enter (f := 19) (args := #[.pointer (some ⟨gi, 0, none⟩), .int .i64 aa]) ho rfl (by rfl) (by clear h hN; have hcst : ∀ v, a.eval (.const v) = v := (fun _ => rfl); have hfun : ∀ f, a.eval (.func f) = .func (.func f) #[] #[] := (fun _ => rfl); generalize a.eval = ρ at *; go_simp) (inStr_tot gi t err W hM3.out.size aa (Lib.hid hui)) ?_
                  rintro e w2 ⟨rfl, h5, h6⟩
                  exact ⟨_, rfl, ⟨rfl, h5⟩, h6⟩
                | 4, ho, hui =>
                  obtain rfl := Option.some.inj (show some _ = some o from ho)
                  have e7 : a.eval (.tmp 7) = .pointer (some ⟨gm, 0, none⟩) := hN.eval 7 (by kernel_rfl)
                  refine fill_value (v := .pointer (some ⟨gm, 0, none⟩)) ho rfl (by rfl) (by clear h hN; have hcst : ∀ v, a.eval (.const v) = v := (fun _ => rfl); have hfun : ∀ f, a.eval (.func f) = .func (.func f) #[] #[] := (fun _ => rfl); generalize a.eval = ρ at *; go_simp) rfl (show W = W from rfl)
                | 5, ho, hui =>
                  obtain rfl := Option.some.inj (show some _ = some o from ho)
                  have e10 : a.eval (.tmp 10) = .pointer (some ⟨gT, 0, none⟩) := hN.eval 10 (by kernel_rfl)
                  refine fill_value (v := .pointer (some ⟨gT, 1, none⟩)) ho rfl (by rfl) (by clear h hN; have hcst : ∀ v, a.eval (.const v) = v := (fun _ => rfl); have hfun : ∀ f, a.eval (.func f) = .func (.func f) #[] #[] := (fun _ => rfl); generalize a.eval = ρ at *; go_simp) rfl (show W = W from rfl)
                | 6, ho, hui =>
                  obtain rfl := Option.some.inj (show some _ = some o from ho)
                  have e111 : a.eval (.tmp 111) = .pointer (some ⟨gT, 1, none⟩) := h ⟨5, .data⟩ (by simp) rfl
                  have hc := tk1 hi.1
                  refine fill_value (v := .int .i64 aa) ho rfl (by rfl) (by clear h hN; have hcst : ∀ v, a.eval (.const v) = v := (fun _ => rfl); have hfun : ∀ f, a.eval (.func f) = .func (.func f) #[] #[] := (fun _ => rfl); generalize a.eval = ρ at *; go_simp) rfl (show W = W from rfl)
                | 7, ho, hui =>
                  obtain rfl := Option.some.inj (show some _ = some o from ho)
                  have e110 : a.eval (.tmp 110) = .pointer (some ⟨gm, 0, none⟩) := h ⟨4, .data⟩ (by simp) rfl
                  have e112 : a.eval (.tmp 112) = .int .i64 aa := h ⟨6, .data⟩ (by simp) rfl
                  refine fill_enter (f := 22) (args := #[.pointer (some ⟨gm, 0, none⟩), .int .i64 aa]) ho rfl (by rfl) (by clear h hN; have hcst : ∀ v, a.eval (.const v) = v := (fun _ => rfl); have hfun : ∀ f, a.eval (.func f) = .func (.func f) #[] #[] := (fun _ => rfl); generalize a.eval = ρ at *; go_simp) (refInStr_tot gm t err W hM3.out.size aa (Lib.hid hui)) ?_
                  rintro e w2 ⟨rfl, h5, h6⟩
                  exact ⟨_, rfl, ⟨rfl, h5⟩, h6⟩
                | 8, ho, hui =>
                  obtain rfl := Option.some.inj (show some _ = some o from ho)
                  obtain ⟨e109, p109⟩ : a.eval (.tmp 109) = .string (stS aa t err).1 ∧ Box W gi (bytesOf (stS aa t err).2.1) (stS aa t err).2.2 := h ⟨3, .data⟩ (by simp) rfl
                  obtain ⟨e113, p113⟩ : a.eval (.tmp 113) = .string (stS aa t err).1 ∧ RBox W gm (stS aa t err).2.1 (stS aa t err).2.2 := h ⟨7, .data⟩ (by simp) rfl
                  refine fill_value (v := .bool false) ho rfl (by rfl) (by clear h hN; have hcst : ∀ v, a.eval (.const v) = v := (fun _ => rfl); have hfun : ∀ f, a.eval (.func f) = .func (.func f) #[] #[] := (fun _ => rfl); generalize a.eval = ρ at *; go_simp) rfl (show W = W from rfl)
                | n + 9, ho, hui => exact absurd ho (by simp)
              · intro vals W hi h
                have u0 : vals 0 = .pointer (some ⟨gi, 0, none⟩) := h 0 (by decide)
                have u1 : vals 1 = .pointer (some ⟨gT, 1, none⟩) := h 1 (by decide)
                have u2 : vals 2 = .int .i64 aa := h 2 (by decide)
                obtain ⟨u3, p3⟩ : vals 3 = .string (stS aa t err).1 ∧ Box W gi (bytesOf (stS aa t err).2.1) (stS aa t err).2.2 := h 3 (by decide)
                have u4 : vals 4 = .pointer (some ⟨gm, 0, none⟩) := h 4 (by decide)
                have u5 : vals 5 = .pointer (some ⟨gT, 1, none⟩) := h 5 (by decide)
                have u6 : vals 6 = .int .i64 aa := h 6 (by decide)
                obtain ⟨u7, p7⟩ : vals 7 = .string (stS aa t err).1 ∧ RBox W gm (stS aa t err).2.1 (stS aa t err).2.2 := h 7 (by decide)
                have u8 : vals 8 = .bool false := h 8 (by decide)
                generalize hA : fill _ _ _ _ = A
                have hA2 : (Act.put (Act.put (Act.put (Act.put (Act.put (Act.put (Act.put (Act.put (Act.put (_ : Act) (some 106) (vals 0)) (some 107) (vals 1)) (some 108) (vals 2)) (some 109) (vals 3)) (some 110) (vals 4)) (some 111) (vals 5)) (some 112) (vals 6)) (some 113) (vals 7)) (some 114) (vals 8)) = A := hA
                clear hA h V R U
                rw [u0, u1, u2, u3, u4, u5, u6, u7, u8] at hA2
                simp only [fill, Act.put, List.setIfInBounds_toArray, List.set_cons_succ, List.set_cons_zero] at hA2
                subst hA2
                clear u0 u1 u2 u3 u4 u5 u6 u7 u8
                have hM4 : Hid (MInv w W gi gm (stS aa t err).2.1 (stS aa t err).2.2) := Lib.hid ⟨p3, p7, Nat.le_trans (stS_size aa t err) hM3.out.size, hi.2⟩
                clear p3 p7 hi hM3 hTk
                generalize (stS aa t err).2.1 = t4 at hM4
                generalize (stS aa t err).2.2 = err4 at hM4
                generalize (stS aa t err).1 = rv at *
                go_wp2_with fail
                let R : World → World → Prop := fun W W2 => W = W2
                let V : Nat → Value → World → Prop := fun j v W => match j with | 0 => v = .pointer (some ⟨gi, 0, none⟩) | 1 => v = .int .i64 err4 | 2 => v = .pointer (some ⟨gm, 0, none⟩) | 3 => v = .pointer (some ⟨gm, 0, none⟩) | 4 => v = .pointer (some ⟨gm, 1, none⟩) | 5 => v = .int .i64 err4 | 6 => v = .bool false | _ => True
                refine wp_region_fill (by kernel_rfl) V (fun W => MInv w W gi gm t4 err4) R (by kernel_rfl) (by kernel_rfl) (minv_later hM4.out ((Below.refl _ _).drew)) (fun W W2 hr hi => hr ▸ hi) ?_ ?_ ?_
                · intro j v W W2 hr h
                  match j, h with
                  | 0, h => exact h
                  | 1, h => exact h
                  | 2, h => exact h
                  | 3, h => exact h
                  | 4, h => exact h
                  | 5, h => exact h
                  | 6, h => exact h
                  | n + 7, h => exact h
                · intro i o ho a W hN hi h
                  match i, ho with
                  | 0, ho =>
                    obtain rfl := Option.some.inj (show some _ = some o from ho)
                    have e6 : a.eval (.tmp 6) = .pointer (some ⟨gi, 0, none⟩) := hN.eval 6 (by kernel_rfl)
                    refine fill_value (v := .pointer (some ⟨gi, 0, none⟩)) ho rfl (by rfl) (by clear h hN; have hcst : ∀ v, a.eval (.const v) = v := (fun _ => rfl); have hfun : ∀ f, a.eval (.func f) = .func (.func f) #[] #[] := (fun _ => rfl); generalize a.eval = ρ at *; go_simp) rfl (rfl)
                  | 1, ho =>
                    obtain rfl := Option.some.inj (show some _ = some o from ho)
                    have e145 : a.eval (.tmp 145) = .pointer (some ⟨gi, 0, none⟩) := h ⟨0, .data⟩ (by simp) rfl
                    refine fill_enter (f := 16) (args := #[.pointer (some ⟨gi, 0, none⟩)]) ho rfl (by rfl) (by clear h hN; have hcst : ∀ v, a.eval (.const v) = v := (fun _ => rfl); have hfun : ∀ f, a.eval (.func f) = .func (.func f) #[] #[] := (fun _ => rfl); generalize a.eval = ρ at *; go_simp) (err_any gi (bytesOf t4) err4 W (Lib.hid hi.box)) ?_
                    rintro e w2 ⟨rfl, rfl⟩
                    exact ⟨_, rfl, rfl, rfl⟩
                  | 2, ho =>
                    obtain rfl := Option.some.inj (show some _ = some o from ho)
                    have e7 : a.eval (.tmp 7) = .pointer (some ⟨gm, 0, none⟩) := hN.eval 7 (by kernel_rfl)
                    refine fill_value (v := .pointer (some ⟨gm, 0, none⟩)) ho rfl (by rfl) (by clear h hN; have hcst : ∀ v, a.eval (.const v) = v := (fun _ => rfl); have hfun : ∀ f, a.eval (.func f) = .func (.func f) #[] #[] := (fun _ => rfl); generalize a.eval = ρ at *; go_simp) rfl (rfl)
                  | 3, ho =>
                    obtain rfl := Option.some.inj (show some _ = some o from ho)
                    have e147 : a.eval (.tmp 147) = .pointer (some ⟨gm, 0, none⟩) := h ⟨2, .data⟩ (by simp) rfl
                    refine fill_value (v := .pointer (some ⟨gm, 0, none⟩)) ho rfl (by rfl) (by clear h hN; have hcst : ∀ v, a.eval (.const v) = v := (fun _ => rfl); have hfun : ∀ f, a.eval (.func f) = .func (.func f) #[] #[] := (fun _ => rfl); generalize a.eval = ρ at *; go_simp) rfl (rfl)
                  | 4, ho =>
                    obtain rfl := Option.some.inj (show some _ = some o from ho)
                    have e148 : a.eval (.tmp 148) = .pointer (some ⟨gm, 0, none⟩) := h ⟨3, .data⟩ (by simp) rfl
                    refine fill_value (v := .pointer (some ⟨gm, 1, none⟩)) ho rfl (by rfl) (by clear h hN; have hcst : ∀ v, a.eval (.const v) = v := (fun _ => rfl); have hfun : ∀ f, a.eval (.func f) = .func (.func f) #[] #[] := (fun _ => rfl); generalize a.eval = ρ at *; go_simp) rfl (rfl)
                  | 5, ho =>
                    obtain rfl := Option.some.inj (show some _ = some o from ho)
                    have e149 : a.eval (.tmp 149) = .pointer (some ⟨gm, 1, none⟩) := h ⟨4, .data⟩ (by simp) rfl
                    have hc5 := box_cell1 hi.rbox
                    refine fill_value (v := .int .i64 err4) ho rfl (by rfl) (by clear h hN; have hcst : ∀ v, a.eval (.const v) = v := (fun _ => rfl); have hfun : ∀ f, a.eval (.func f) = .func (.func f) #[] #[] := (fun _ => rfl); generalize a.eval = ρ at *; go_simp) rfl (rfl)
                  | 6, ho =>
                    obtain rfl := Option.some.inj (show some _ = some o from ho)
                    have e146 : a.eval (.tmp 146) = .int .i64 err4 := h ⟨1, .data⟩ (by simp) rfl
                    have e150 : a.eval (.tmp 150) = .int .i64 err4 := h ⟨5, .data⟩ (by simp) rfl
                    refine fill_value (v := .bool false) ho rfl (by rfl) (by clear h hN; have hcst : ∀ v, a.eval (.const v) = v := (fun _ => rfl); have hfun : ∀ f, a.eval (.func f) = .func (.func f) #[] #[] := (fun _ => rfl); generalize a.eval = ρ at *; go_simp) rfl (rfl)
                  | n + 7, ho => exact absurd ho (by simp)
                · intro vals W hi h
                  have u0 : vals 0 = .pointer (some ⟨gi, 0, none⟩) := h 0 (by decide)
                  have u1 : vals 1 = .int .i64 err4 := h 1 (by decide)
                  have u2 : vals 2 = .pointer (some ⟨gm, 0, none⟩) := h 2 (by decide)
                  have u3 : vals 3 = .pointer (some ⟨gm, 0, none⟩) := h 3 (by decide)
                  have u4 : vals 4 = .pointer (some ⟨gm, 1, none⟩) := h 4 (by decide)
                  have u5 : vals 5 = .int .i64 err4 := h 5 (by decide)
                  have u6 : vals 6 = .bool false := h 6 (by decide)
                  generalize hA : fill _ _ _ _ = A
                  have hA2 : (Act.put (Act.put (Act.put (Act.put (Act.put (Act.put (Act.put (_ : Act) (some 145) (vals 0)) (some 146) (vals 1)) (some 147) (vals 2)) (some 148) (vals 3)) (some 149) (vals 4)) (some 150) (vals 5)) (some 151) (vals 6)) = A := hA
                  clear hA h V R
                  rw [u0, u1, u2, u3, u4, u5, u6] at hA2
                  simp only [fill, Act.put, List.setIfInBounds_toArray, List.set_cons_succ, List.set_cons_zero] at hA2
                  subst hA2
                  clear u0 u1 u2 u3 u4 u5 u6
                  have hM5 := Lib.hid hi
                  clear hi hM4
                  go_wp2_with fail
                  go_roundw
                  case rel => exact ⟨j + 1, t4, err4, by go_num, by omega, by omega, hM5⟩
                  case measure => simp [intOf]; omega
            · have hq0 : wrap64 ((IntKind.u64.wrap x).tmod 4) = 2 := hq
              clear hq
              obtain ⟨r, hr18, hr⟩ := rem18 aa
              have hr1 : IntKind.i64.wrap (1 + (r : Int)) = 1 + (r : Int) := by rw [IntKind.wrap_i64]; omega
              go_wp2_with fail
              have hM3' : MInv w (wr.alloc (Obj.cells #[Value.int IntKind.i64 x, Value.int IntKind.i64 aa, Value.int IntKind.i64 bb] 42)) gi gm t err := minv_later hI.out ((Below.refl _ _).alloc (Nat.le_refl _) _)
              have hTk' : Tk (wr.alloc (Obj.cells #[Value.int IntKind.i64 x, Value.int IntKind.i64 aa, Value.int IntKind.i64 bb] 42)) wr.heap.size x aa bb := Array.getElem?_push_size
              have hg1 : wr.heap.size ≠ gi := Nat.ne_of_gt (box_lt hI.out.box)
              have hg2 : wr.heap.size ≠ gm := Nat.ne_of_gt (Array.getElem?_eq_some_iff.1 hI.out.rbox).1
              have hM3 := Lib.hid hM3'
              have hTk := Lib.hid hTk'
              clear hM3' hTk' hI c0 c1 c2
              generalize wr.alloc (Obj.cells #[Value.int IntKind.i64 x, Value.int IntKind.i64 aa, Value.int IntKind.i64 bb] 42) = w3 at *
              generalize wr.heap.size = gT at *
              refine (fail_only gi (bytesOf t) err (1 + (r : Int)) _ (Lib.hid hM3.out.box)).mono ?_
              rintro e w4 ⟨rfl, hb4', ho4'⟩
              have hr4 := rbox_keep hM3.out.rbox ho4' (Ne.symm hne)
              have hbl4 := only_below2 hM3.out.below ho4' hgi' (Nat.le_refl _)
              have hcm := box_cell1 hr4
              have hfm := box_free (i := 1) hr4
              have hb4 := Lib.hid hb4'
              have hr4' := Lib.hid hr4
              have hbl4' := Lib.hid hbl4
              have hsz := Lib.hid hM3.out.size
              clear hb4' ho4' hr4 hbl4 hM3 hTk
              by_cases he : err = 0
              · subst he
                rw [if_pos rfl] at hb4
                have hM4 : Hid (MInv w (w4.setCell ⟨gm, 1, none⟩ (.int .i64 (1 + (r : Int)))) gi gm t (1 + (r : Int))) := Lib.hid ⟨box_keep hb4.out hr4'.out (only_set (Only.refl _ _) _ _) hne, box_set1 hr4'.out _, hsz.out, only_below2 hbl4'.out (only_set (Only.refl _ _) _ _) hgm' (Nat.le_refl _)⟩
                clear hb4 hr4' hbl4' hsz
                go_wp2_with fail
                let R : World → World → Prop := fun W W2 => W = W2
                let V : Nat → Value → World → Prop := fun j v W => match j with | 0 => v = .pointer (some ⟨gi, 0, none⟩) | 1 => v = .int .i64 (1 + (r : Int)) | 2 => v = .pointer (some ⟨gm, 0, none⟩) | 3 => v = .pointer (some ⟨gm, 0, none⟩) | 4 => v = .pointer (some ⟨gm, 1, none⟩) | 5 => v = .int .i64 (1 + (r : Int)) | 6 => v = .bool false | _ => True
                refine wp_region_fill (by kernel_rfl) V (fun W => MInv w W gi gm t (1 + (r : Int))) R (by kernel_rfl) (by kernel_rfl) (minv_later hM4.out ((Below.refl _ _).drew)) (fun W W2 hr hi => hr ▸ hi) ?_ ?_ ?_
                · intro j v W W2 hr h
                  match j, h with
                  | 0, h => exact h
                  | 1, h => exact h
                  | 2, h => exact h
                  | 3, h => exact h
                  | 4, h => exact h
                  | 5, h => exact h
                  | 6, h => exact h
                  | n + 7, h => exact h
                · intro i o ho a W hN hi h
                  match i, ho with
                  | 0, ho =>
                    obtain rfl := Option.some.inj (show some _ = some o from ho)
                    have e6 : a.eval (.tmp 6) = .pointer (some ⟨gi, 0, none⟩) := hN.eval 6 (by kernel_rfl)
                    refine fill_value (v := .pointer (some ⟨gi, 0, none⟩)) ho rfl (by rfl) (by clear h hN; have hcst : ∀ v, a.eval (.const v) = v := (fun _ => rfl); have hfun : ∀ f, a.eval (.func f) = .func (.func f) #[] #[] := (fun _ => rfl); generalize a.eval = ρ at *; go_simp) rfl (rfl)
                  | 1, ho =>
                    obtain rfl := Option.some.inj (show some _ = some o from ho)
                    have e145 : a.eval (.tmp 145) = .pointer (some ⟨gi, 0, none⟩) := h ⟨0, .data⟩ (by simp) rfl
                    refine fill_enter (f := 16) (args := #[.pointer (some ⟨gi, 0, none⟩)]) ho rfl (by rfl) (by clear h hN; have hcst : ∀ v, a.eval (.const v) = v := (fun _ => rfl); have hfun : ∀ f, a.eval (.func f) = .func (.func f) #[] #[] := (fun _ => rfl); generalize a.eval = ρ at *; go_simp) (err_any gi (bytesOf t) (1 + (r : Int)) W (Lib.hid hi.box)) ?_
                    rintro e w2 ⟨rfl, rfl⟩
                    exact ⟨_, rfl, rfl, rfl⟩
                  | 2, ho =>
                    obtain rfl := Option.some.inj (show some _ = some o from ho)
                    have e7 : a.eval (.tmp 7) = .pointer (some ⟨gm, 0, none⟩) := hN.eval 7 (by kernel_rfl)
                    refine fill_value (v := .pointer (some ⟨gm, 0, none⟩)) ho rfl (by rfl) (by clear h hN; have hcst : ∀ v, a.eval (.const v) = v := (fun _ => rfl); have hfun : ∀ f, a.eval (.func f) = .func (.func f) #[] #[] := (fun _ => rfl); generalize a.eval = ρ at *; go_simp) rfl (rfl)
                  | 3, ho =>
                    obtain rfl := Option.some.inj (show some _ = some o from ho)
                    have e147 : a.eval (.tmp 147) = .pointer (some ⟨gm, 0, none⟩) := h ⟨2, .data⟩ (by simp) rfl
                    refine fill_value (v := .pointer (some ⟨gm, 0, none⟩)) ho rfl (by rfl) (by clear h hN; have hcst : ∀ v, a.eval (.const v) = v := (fun _ => rfl); have hfun : ∀ f, a.eval (.func f) = .func (.func f) #[] #[] := (fun _ => rfl); generalize a.eval = ρ at *; go_simp) rfl (rfl)
                  | 4, ho =>
                    obtain rfl := Option.some.inj (show some _ = some o from ho)
                    have e148 : a.eval (.tmp 148) = .pointer (some ⟨gm, 0, none⟩) := h ⟨3, .data⟩ (by simp) rfl
                    refine fill_value (v := .pointer (some ⟨gm, 1, none⟩)) ho rfl (by rfl) (by clear h hN; have hcst : ∀ v, a.eval (.const v) = v := (fun _ => rfl); have hfun : ∀ f, a.eval (.func f) = .func (.func f) #[] #[] := (fun _ => rfl); generalize a.eval = ρ at *; go_simp) rfl (rfl)
                  | 5, ho =>
                    obtain rfl := Option.some.inj (show some _ = some o from ho)
                    have e149 : a.eval (.tmp 149) = .pointer (some ⟨gm, 1, none⟩) := h ⟨4, .data⟩ (by simp) rfl
                    have hc5 := box_cell1 hi.rbox
                    refine fill_value (v := .int .i64 (1 + (r : Int))) ho rfl (by rfl) (by clear h hN; have hcst : ∀ v, a.eval (.const v) = v := (fun _ => rfl); have hfun : ∀ f, a.eval (.func f) = .func (.func f) #[] #[] := (fun _ => rfl); generalize a.eval = ρ at *; go_simp) rfl (rfl)
                  | 6, ho =>
                    obtain rfl := Option.some.inj (show some _ = some o from ho)
                    have e146 : a.eval (.tmp 146) = .int .i64 (1 + (r : Int)) := h ⟨1, .data⟩ (by simp) rfl
                    have e150 : a.eval (.tmp 150) = .int .i64 (1 + (r : Int)) := h ⟨5, .data⟩ (by simp) rfl
                    refine fill_value (v := .bool false) ho rfl (by rfl) (by clear h hN; have hcst : ∀ v, a.eval (.const v) = v := (fun _ => rfl); have hfun : ∀ f, a.eval (.func f) = .func (.func f) #[] #[] := (fun _ => rfl); generalize a.eval = ρ at *; go_simp) rfl (rfl)
                  | n + 7, ho => exact absurd ho (by simp)
                · intro vals W hi h
                  have u0 : vals 0 = .pointer (some ⟨gi, 0, none⟩) := h 0 (by decide)
                  have u1 : vals 1 = .int .i64 (1 + (r : Int)) := h 1 (by decide)
                  have u2 : vals 2 = .pointer (some ⟨gm, 0, none⟩) := h 2 (by decide)
                  have u3 : vals 3 = .pointer (some ⟨gm, 0, none⟩) := h 3 (by decide)
                  have u4 : vals 4 = .pointer (some ⟨gm, 1, none⟩) := h 4 (by decide)
                  have u5 : vals 5 = .int .i64 (1 + (r : Int)) := h 5 (by decide)
                  have u6 : vals 6 = .bool false := h 6 (by decide)
                  generalize hA : fill _ _ _ _ = A
                  have hA2 : (Act.put (Act.put (Act.put (Act.put (Act.put (Act.put (Act.put (_ : Act) (some 145) (vals 0)) (some 146) (vals 1)) (some 147) (vals 2)) (some 148) (vals 3)) (some 149) (vals 4)) (some 150) (vals 5)) (some 151) (vals 6)) = A := hA
                  clear hA h V R
                  rw [u0, u1, u2, u3, u4, u5, u6] at hA2
                  simp only [fill, Act.put, List.setIfInBounds_toArray, List.set_cons_succ, List.set_cons_zero] at hA2
                  subst hA2
                  clear u0 u1 u2 u3 u4 u5 u6
                  have hM5 := Lib.hid hi
                  clear hi hM4
                  go_wp2_with fail
                  go_roundw
                  case rel => exact ⟨j + 1, t, (1 + (r : Int)), by go_num, by omega, by omega, hM5⟩
                  case measure => simp [intOf]; omega
              · rw [if_neg he] at hb4
                have hM4 : Hid (MInv w w4 gi gm t err) := Lib.hid ⟨hb4.out, hr4'.out, hsz.out, hbl4'.out⟩
                clear hb4 hr4' hbl4' hsz
                go_wp2_with fail
                let R : World → World → Prop := fun W W2 => W = W2
                let V : Nat → Value → World → Prop := fun j v W => match j with | 0 => v = .pointer (some ⟨gi, 0, none⟩) | 1 => v = .int .i64 err | 2 => v = .pointer (some ⟨gm, 0, none⟩) | 3 => v = .pointer (some ⟨gm, 0, none⟩) | 4 => v = .pointer (some ⟨gm, 1, none⟩) | 5 => v = .int .i64 err | 6 => v = .bool false | _ => True
                refine wp_region_fill (by kernel_rfl) V (fun W => MInv w W gi gm t err) R (by kernel_rfl) (by kernel_rfl) (minv_later hM4.out ((Below.refl _ _).drew)) (fun W W2 hr hi => hr ▸ hi) ?_ ?_ ?_
                · intro j v W W2 hr h
                  match j, h with
                  | 0, h => exact h
                  | 1, h => exact h
                  | 2, h => exact h
                  | 3, h => exact h
                  | 4, h => exact h
                  | 5, h => exact h
                  | 6, h => exact h
                  | n + 7, h => exact h
                · intro i o ho a W hN hi h
                  match i, ho with
                  | 0, ho =>
                    obtain rfl := Option.some.inj (show some _ = some o from ho)
                    have e6 : a.eval (.tmp 6) = .pointer (some ⟨gi, 0, none⟩) := hN.eval 6 (by kernel_rfl)
                    refine fill_value (v := .pointer (some ⟨gi, 0, none⟩)) ho rfl (by rfl) (by clear h hN; have hcst : ∀ v, a.eval (.const v) = v := (fun _ => rfl); have hfun : ∀ f, a.eval (.func f) = .func (.func f) #[] #[] := (fun _ => rfl); generalize a.eval = ρ at *; go_simp) rfl (rfl)
                  | 1, ho =>
                    obtain rfl := Option.some.inj (show some _ = some o from ho)
                    have e145 : a.eval (.tmp 145) = .pointer (some ⟨gi, 0, none⟩) := h ⟨0, .data⟩ (by simp) rfl
                    refine fill_enter (f := 16) (args := #[.pointer (some ⟨gi, 0, none⟩)]) ho rfl (by rfl) (by clear h hN; have hcst : ∀ v, a.eval (.const v) = v := (fun _ => rfl); have hfun : ∀ f, a.eval (.func f) = .func (.func f) #[] #[] := (fun _ => rfl); generalize a.eval = ρ at *; go_simp) (err_any gi (bytesOf t) err W (Lib.hid hi.box)) ?_
                    rintro e w2 ⟨rfl, rfl⟩
                    exact ⟨_, rfl, rfl, rfl⟩
                  | 2, ho =>
                    obtain rfl := Option.some.inj (show some _ = some o from ho)
                    have e7 : a.eval (.tmp 7) = .pointer (some ⟨gm, 0, none⟩) := hN.eval 7 (by kernel_rfl)
                    refine fill_value (v := .pointer (some ⟨gm, 0, none⟩)) ho rfl (by rfl) (by clear h hN; have hcst : ∀ v, a.eval (.const v) = v := (fun _ => rfl); have hfun : ∀ f, a.eval (.func f) = .func (.func f) #[] #[] := (fun _ => rfl); generalize a.eval = ρ at *; go_simp) rfl (rfl)
                  | 3, ho =>
                    obtain rfl := Option.some.inj (show some _ = some o from ho)
                    have e147 : a.eval (.tmp 147) = .pointer (some ⟨gm, 0, none⟩) := h ⟨2, .data⟩ (by simp) rfl
                    refine fill_value (v := .pointer (some ⟨gm, 0, none⟩)) ho rfl (by rfl) (by clear h hN; have hcst : ∀ v, a.eval (.const v) = v := (fun _ => rfl); have hfun : ∀ f, a.eval (.func f) = .func (.func f) #[] #[] := (fun _ => rfl); generalize a.eval = ρ at *; go_simp) rfl (rfl)
                  | 4, ho =>
                    obtain rfl := Option.some.inj (show some _ = some o from ho)
                    have e148 : a.eval (.tmp 148) = .pointer (some ⟨gm, 0, none⟩) := h ⟨3, .data⟩ (by simp) rfl
                    refine fill_value (v := .pointer (some ⟨gm, 1, none⟩)) ho rfl (by rfl) (by clear h hN; have hcst : ∀ v, a.eval (.const v) = v := (fun _ => rfl); have hfun : ∀ f, a.eval (.func f) = .func (.func f) #[] #[] := (fun _ => rfl); generalize a.eval = ρ at *; go_simp) rfl (rfl)
                  | 5, ho =>
                    obtain rfl := Option.some.inj (show some _ = some o from ho)
                    have e149 : a.eval (.tmp 149) = .pointer (some ⟨gm, 1, none⟩) := h ⟨4, .data⟩ (by simp) rfl
                    have hc5 := box_cell1 hi.rbox
                    refine fill_value (v := .int .i64 err) ho rfl (by rfl) (by clear h hN; have hcst : ∀ v, a.eval (.const v) = v := (fun _ => rfl); have hfun : ∀ f, a.eval (.func f) = .func (.func f) #[] #[] := (fun _ => rfl); generalize a.eval = ρ at *; go_simp) rfl (rfl)
                  | 6, ho =>
                    obtain rfl := Option.some.inj (show some _ = some o from ho)
                    have e146 : a.eval (.tmp 146) = .int .i64 err := h ⟨1, .data⟩ (by simp) rfl
                    have e150 : a.eval (.tmp 150) = .int .i64 err := h ⟨5, .data⟩ (by simp) rfl
                    refine fill_value (v := .bool false) ho rfl (by rfl) (by clear h hN; have hcst : ∀ v, a.eval (.const v) = v := (fun _ => rfl); have hfun : ∀ f, a.eval (.func f) = .func (.func f) #[] #[] := (fun _ => rfl); generalize a.eval = ρ at *; go_simp) rfl (rfl)
                  | n + 7, ho => exact absurd ho (by simp)
                · intro vals W hi h
                  have u0 : vals 0 = .pointer (some ⟨gi, 0, none⟩) := h 0 (by decide)
                  have u1 : vals 1 = .int .i64 err := h 1 (by decide)
                  have u2 : vals 2 = .pointer (some ⟨gm, 0, none⟩) := h 2 (by decide)
                  have u3 : vals 3 = .pointer (some ⟨gm, 0, none⟩) := h 3 (by decide)
                  have u4 : vals 4 = .pointer (some ⟨gm, 1, none⟩) := h 4 (by decide)
                  have u5 : vals 5 = .int .i64 err := h 5 (by decide)
                  have u6 : vals 6 = .bool false := h 6 (by decide)
                  generalize hA : fill _ _ _ _ = A
                  have hA2 : (Act.put (Act.put (Act.put (Act.put (Act.put (Act.put (Act.put (_ : Act) (some 145) (vals 0)) (some 146) (vals 1)) (some 147) (vals 2)) (some 148) (vals 3)) (some 149) (vals 4)) (some 150) (vals 5)) (some 151) (vals 6)) = A := hA
                  clear hA h V R
                  rw [u0, u1, u2, u3, u4, u5, u6] at hA2
                  simp only [fill, Act.put, List.setIfInBounds_toArray, List.set_cons_succ, List.set_cons_zero] at hA2
                  subst hA2
                  clear u0 u1 u2 u3 u4 u5 u6
                  have hM5 := Lib.hid hi
                  clear hi hM4
                  go_wp2_with fail
                  go_roundw
                  case rel => exact ⟨j + 1, t, err, by go_num, by omega, by omega, hM5⟩
                  case measure => simp [intOf]; omega
            · have hq0 : wrap64 ((IntKind.u64.wrap x).tmod 4) = 3 := hq
              clear hq
              go_wp2_with fail
              have hM3' : MInv w (wr.alloc (Obj.cells #[Value.int IntKind.i64 x, Value.int IntKind.i64 aa, Value.int IntKind.i64 bb] 42)) gi gm t err := minv_later hI.out ((Below.refl _ _).alloc (Nat.le_refl _) _)
              have hTk' : Tk (wr.alloc (Obj.cells #[Value.int IntKind.i64 x, Value.int IntKind.i64 aa, Value.int IntKind.i64 bb] 42)) wr.heap.size x aa bb := Array.getElem?_push_size
              have hg1 : wr.heap.size ≠ gi := Nat.ne_of_gt (box_lt hI.out.box)
              have hg2 : wr.heap.size ≠ gm := Nat.ne_of_gt (Array.getElem?_eq_some_iff.1 hI.out.rbox).1
              have hM3 := Lib.hid hM3'
              have hTk := Lib.hid hTk'
              clear hM3' hTk' hI c0 c1 c2
              generalize wr.alloc (Obj.cells #[Value.int IntKind.i64 x, Value.int IntKind.i64 aa, Value.int IntKind.i64 bb] 42) = w3 at *
              generalize wr.heap.size = gT at *
              let R : World → World → Prop := fun W W2 => W = W2
              let V : Nat → Value → World → Prop := fun j v W => match j with | 0 => v = .pointer (some ⟨gi, 0, none⟩) | 1 => v = .int .i64 (t.size : Int) | 2 => v = .pointer (some ⟨gm, 0, none⟩) | 3 => v = .pointer (some ⟨gm, 0, none⟩) | 4 => v = .pointer (some ⟨gm, 0, none⟩) | 5 => v = .string t | 6 => v = .int .i64 (t.size : Int) | 7 => v = .bool false | _ => True
              refine wp_region_fill (by kernel_rfl) V (fun W => MInv w W gi gm t err) R (by kernel_rfl) (by kernel_rfl) (minv_later hM3.out ((Below.refl _ _).drew)) (fun W W2 hr hi => hr ▸ hi) ?_ ?_ ?_
              · intro j v W W2 hr h
                match j, h with
                | 0, h => exact h
                | 1, h => exact h
                | 2, h => exact h
                | 3, h => exact h
                | 4, h => exact h
                | 5, h => exact h
                | 6, h => exact h
                | 7, h => exact h
                | n + 8, h => exact h
              · intro i o ho a W hN hi h
                match i, ho with
                | 0, ho =>
                  obtain rfl := Option.some.inj (show some _ = some o from ho)
                  have e6 : a.eval (.tmp 6) = .pointer (some ⟨gi, 0, none⟩) := hN.eval 6 (by kernel_rfl)
                  refine fill_value (v := .pointer (some ⟨gi, 0, none⟩)) ho rfl (by rfl) (by clear h hN; have hcst : ∀ v, a.eval (.const v) = v := (fun _ => rfl); have hfun : ∀ f, a.eval (.func f) = .func (.func f) #[] #[] := (fun _ => rfl); generalize a.eval = ρ at *; go_simp) rfl (rfl)
                | 1, ho =>
                  obtain rfl := Option.some.inj (show some _ = some o from ho)
                  have e137 : a.eval (.tmp 137) = .pointer (some ⟨gi, 0, none⟩) := h ⟨0, .data⟩ (by simp) rfl
                  refine fill_enter (f := 18) (args := #[.pointer (some ⟨gi, 0, none⟩)]) ho rfl (by rfl) (by clear h hN; have hcst : ∀ v, a.eval (.const v) = v := (fun _ => rfl); have hfun : ∀ f, a.eval (.func f) = .func (.func f) #[] #[] := (fun _ => rfl); generalize a.eval = ρ at *; go_simp) (left_t gi t err W (Lib.hid hi.box)) ?_
                  rintro e w2 ⟨rfl, rfl⟩
                  exact ⟨_, rfl, rfl, rfl⟩
                | 2, ho =>
                  obtain rfl := Option.some.inj (show some _ = some o from ho)
                  have e7 : a.eval (.tmp 7) = .pointer (some ⟨gm, 0, none⟩) := hN.eval 7 (by kernel_rfl)
                  refine fill_value (v := .pointer (some ⟨gm, 0, none⟩)) ho rfl (by rfl) (by clear h hN; have hcst : ∀ v, a.eval (.const v) = v := (fun _ => rfl); have hfun : ∀ f, a.eval (.func f) = .func (.func f) #[] #[] := (fun _ => rfl); generalize a.eval = ρ at *; go_simp) rfl (rfl)
                | 3, ho =>
                  obtain rfl := Option.some.inj (show some _ = some o from ho)
                  have e139 : a.eval (.tmp 139) = .pointer (some ⟨gm, 0, none⟩) := h ⟨2, .data⟩ (by simp) rfl
                  refine fill_value (v := .pointer (some ⟨gm, 0, none⟩)) ho rfl (by rfl) (by clear h hN; have hcst : ∀ v, a.eval (.const v) = v := (fun _ => rfl); have hfun : ∀ f, a.eval (.func f) = .func (.func f) #[] #[] := (fun _ => rfl); generalize a.eval = ρ at *; go_simp) rfl (rfl)
                | 4, ho =>
                  obtain rfl := Option.some.inj (show some _ = some o from ho)
                  have e140 : a.eval (.tmp 140) = .pointer (some ⟨gm, 0, none⟩) := h ⟨3, .data⟩ (by simp) rfl
                  refine fill_value (v := .pointer (some ⟨gm, 0, none⟩)) ho rfl (by rfl) (by clear h hN; have hcst : ∀ v, a.eval (.const v) = v := (fun _ => rfl); have hfun : ∀ f, a.eval (.func f) = .func (.func f) #[] #[] := (fun _ => rfl); generalize a.eval = ρ at *; go_simp) rfl (rfl)
                | 5, ho =>
                  obtain rfl := Option.some.inj (show some _ = some o from ho)
                  have e141 : a.eval (.tmp 141) = .pointer (some ⟨gm, 0, none⟩) := h ⟨4, .data⟩ (by simp) rfl
                  have hc5 := box_cell0 hi.rbox
                  refine fill_value (v := .string t) ho rfl (by rfl) (by clear h hN; have hcst : ∀ v, a.eval (.const v) = v := (fun _ => rfl); have hfun : ∀ f, a.eval (.func f) = .func (.func f) #[] #[] := (fun _ => rfl); generalize a.eval = ρ at *; go_simp) rfl (rfl)
                | 6, ho =>
                  obtain rfl := Option.some.inj (show some _ = some o from ho)
                  have e142 : a.eval (.tmp 142) = .string t := h ⟨5, .data⟩ (by simp) rfl
                  refine fill_value (v := .int .i64 (t.size : Int)) ho rfl (by rfl) (by clear h hN; have hcst : ∀ v, a.eval (.const v) = v := (fun _ => rfl); have hfun : ∀ f, a.eval (.func f) = .func (.func f) #[] #[] := (fun _ => rfl); generalize a.eval = ρ at *; go_simp) rfl (rfl)
                | 7, ho =>
                  obtain rfl := Option.some.inj (show some _ = some o from ho)
                  have e138 : a.eval (.tmp 138) = .int .i64 (t.size : Int) := h ⟨1, .data⟩ (by simp) rfl
                  have e143 : a.eval (.tmp 143) = .int .i64 (t.size : Int) := h ⟨6, .data⟩ (by simp) rfl
                  refine fill_value (v := .bool false) ho rfl (by rfl) (by clear h hN; have hcst : ∀ v, a.eval (.const v) = v := (fun _ => rfl); have hfun : ∀ f, a.eval (.func f) = .func (.func f) #[] #[] := (fun _ => rfl); generalize a.eval = ρ at *; go_simp) rfl (rfl)
                | n + 8, ho => exact absurd ho (by simp)
              · intro vals W hi h
                have u0 : vals 0 = .pointer (some ⟨gi, 0, none⟩) := h 0 (by decide)
                have u1 : vals 1 = .int .i64 (t.size : Int) := h 1 (by decide)
                have u2 : vals 2 = .pointer (some ⟨gm, 0, none⟩) := h 2 (by decide)
                have u3 : vals 3 = .pointer (some ⟨gm, 0, none⟩) := h 3 (by decide)
                have u4 : vals 4 = .pointer (some ⟨gm, 0, none⟩) := h 4 (by decide)
                have u5 : vals 5 = .string t := h 5 (by decide)
                have u6 : vals 6 = .int .i64 (t.size : Int) := h 6 (by decide)
                have u7 : vals 7 = .bool false := h 7 (by decide)
                generalize hA : fill _ _ _ _ = A
                have hA2 : (Act.put (Act.put (Act.put (Act.put (Act.put (Act.put (Act.put (Act.put (_ : Act) (some 137) (vals 0)) (some 138) (vals 1)) (some 139) (vals 2)) (some 140) (vals 3)) (some 141) (vals 4)) (some 142) (vals 5)) (some 143) (vals 6)) (some 144) (vals 7)) = A := hA
                clear hA h V R
                rw [u0, u1, u2, u3, u4, u5, u6, u7] at hA2
                simp only [fill, Act.put, List.setIfInBounds_toArray, List.set_cons_succ, List.set_cons_zero] at hA2
                subst hA2
                clear u0 u1 u2 u3 u4 u5 u6 u7
                have hM4 := Lib.hid hi
                clear hi hM3 hTk
                obtain ⟨t4, ht4⟩ : ∃ t4, t = t4 := ⟨_, rfl⟩
                obtain ⟨err4, he4⟩ : ∃ err4, err = err4 := ⟨_, rfl⟩
                subst ht4
                subst he4
                go_wp2_with fail
                let R : World → World → Prop := fun W W2 => W = W2
                let V : Nat → Value → World → Prop := fun j v W => match j with | 0 => v = .pointer (some ⟨gi, 0, none⟩) | 1 => v = .int .i64 err | 2 => v = .pointer (some ⟨gm, 0, none⟩) | 3 => v = .pointer (some ⟨gm, 0, none⟩) | 4 => v = .pointer (some ⟨gm, 1, none⟩) | 5 => v = .int .i64 err | 6 => v = .bool false | _ => True
                refine wp_region_fill (by kernel_rfl) V (fun W => MInv w W gi gm t err) R (by kernel_rfl) (by kernel_rfl) (minv_later hM4.out ((Below.refl _ _).drew)) (fun W W2 hr hi => hr ▸ hi) ?_ ?_ ?_
                · intro j v W W2 hr h
                  match j, h with
                  | 0, h => exact h
                  | 1, h => exact h
                  | 2, h => exact h
                  | 3, h => exact h
                  | 4, h => exact h
                  | 5, h => exact h
                  | 6, h => exact h
                  | n + 7, h => exact h
                · intro i o ho a W hN hi h
                  match i, ho with
                  | 0, ho =>
                    obtain rfl := Option.some.inj (show some _ = some o from ho)
                    have e6 : a.eval (.tmp 6) = .pointer (some ⟨gi, 0, none⟩) := hN.eval 6 (by kernel_rfl)
                    refine fill_value (v := .pointer (some ⟨gi, 0, none⟩)) ho rfl (by rfl) (by clear h hN; have hcst : ∀ v, a.eval (.const v) = v := (fun _ => rfl); have hfun : ∀ f, a.eval (.func f) = .func (.func f) #[] #[] := (fun _ => rfl); generalize a.eval = ρ at *; go_simp) rfl (rfl)
                  | 1, ho =>
                    obtain rfl := Option.some.inj (show some _ = some o from ho)
                    have e145 : a.eval (.tmp 145) = .pointer (some ⟨gi, 0, none⟩) := h ⟨0, .data⟩ (by simp) rfl
                    refine fill_enter (f := 16) (args := #[.pointer (some ⟨gi, 0, none⟩)]) ho rfl (by rfl) (by clear h hN; have hcst : ∀ v, a.eval (.const v) = v := (fun _ => rfl); have hfun : ∀ f, a.eval (.func f) = .func (.func f) #[] #[] := (fun _ => rfl); generalize a.eval = ρ at *; go_simp) (err_any gi (bytesOf t) err W (Lib.hid hi.box)) ?_
                    rintro e w2 ⟨rfl, rfl⟩
                    exact ⟨_, rfl, rfl, rfl⟩
                  | 2, ho =>
                    obtain rfl := Option.some.inj (show some _ = some o from ho)
                    have e7 : a.eval (.tmp 7) = .pointer (some ⟨gm, 0, none⟩) := hN.eval 7 (by kernel_rfl)
                    refine fill_value (v := .pointer (some ⟨gm, 0, none⟩)) ho rfl (by rfl) (by clear h hN; have hcst : ∀ v, a.eval (.const v) = v := (fun _ => rfl); have hfun : ∀ f, a.eval (.func f) = .func (.func f) #[] #[] := (fun _ => rfl); generalize a.eval = ρ at *; go_simp) rfl (rfl)
                  | 3, ho =>
                    obtain rfl := Option.some.inj (show some _ = some o from ho)
                    have e147 : a.eval (.tmp 147) = .pointer (some ⟨gm, 0, none⟩) := h ⟨2, .data⟩ (by simp) rfl
                    refine fill_value (v := .pointer (some ⟨gm, 0, none⟩)) ho rfl (by rfl) (by clear h hN; have hcst : ∀ v, a.eval (.const v) = v := (fun _ => rfl); have hfun : ∀ f, a.eval (.func f) = .func (.func f) #[] #[] := (fun _ => rfl); generalize a.eval = ρ at *; go_simp) rfl (rfl)
                  | 4, ho =>
                    obtain rfl := Option.some.inj (show some _ = some o from ho)
                    have e148 : a.eval (.tmp 148) = .pointer (some ⟨gm, 0, none⟩) := h ⟨3, .data⟩ (by simp) rfl
                    refine fill_value (v := .pointer (some ⟨gm, 1, none⟩)) ho rfl (by rfl) (by clear h hN; have hcst : ∀ v, a.eval (.const v) = v := (fun _ => rfl); have hfun : ∀ f, a.eval (.func f) = .func (.func f) #[] #[] := (fun _ => rfl); generalize a.eval = ρ at *; go_simp) rfl (rfl)
                  | 5, ho =>
                    obtain rfl := Option.some.inj (show some _ = some o from ho)
                    have e149 : a.eval (.tmp 149) = .pointer (some ⟨gm, 1, none⟩) := h ⟨4, .data⟩ (by simp) rfl
                    have hc5 := box_cell1 hi.rbox
                    refine fill_value (v := .int .i64 err) ho rfl (by rfl) (by clear h hN; have hcst : ∀ v, a.eval (.const v) = v := (fun _ => rfl); have hfun : ∀ f, a.eval (.func f) = .func (.func f) #[] #[] := (fun _ => rfl); generalize a.eval = ρ at *; go_simp) rfl (rfl)
                  | 6, ho =>
                    obtain rfl := Option.some.inj (show some _ = some o from ho)
                    have e146 : a.eval (.tmp 146) = .int .i64 err := h ⟨1, .data⟩ (by simp) rfl
                    have e150 : a.eval (.tmp 150) = .int .i64 err := h ⟨5, .data⟩ (by simp) rfl
                    refine fill_value (v := .bool false) ho rfl (by rfl) (by clear h hN; have hcst : ∀ v, a.eval (.const v) = v := (fun _ => rfl); have hfun : ∀ f, a.eval (.func f) = .func (.func f) #[] #[] := (fun _ => rfl); generalize a.eval = ρ at *; go_simp) rfl (rfl)
                  | n + 7, ho => exact absurd ho (by simp)
                · intro vals W hi h
                  have u0 : vals 0 = .pointer (some ⟨gi, 0, none⟩) := h 0 (by decide)
                  have u1 : vals 1 = .int .i64 err := h 1 (by decide)
                  have u2 : vals 2 = .pointer (some ⟨gm, 0, none⟩) := h 2 (by decide)
                  have u3 : vals 3 = .pointer (some ⟨gm, 0, none⟩) := h 3 (by decide)
                  have u4 : vals 4 = .pointer (some ⟨gm, 1, none⟩) := h 4 (by decide)
                  have u5 : vals 5 = .int .i64 err := h 5 (by decide)
                  have u6 : vals 6 = .bool false := h 6 (by decide)
                  generalize hA : fill _ _ _ _ = A
                  have hA2 : (Act.put (Act.put (Act.put (Act.put (Act.put (Act.put (Act.put (_ : Act) (some 145) (vals 0)) (some 146) (vals 1)) (some 147) (vals 2)) (some 148) (vals 3)) (some 149) (vals 4)) (some 150) (vals 5)) (some 151) (vals 6)) = A := hA
                  clear hA h V R
                  rw [u0, u1, u2, u3, u4, u5, u6] at hA2
                  simp only [fill, Act.put, List.setIfInBounds_toArray, List.set_cons_succ, List.set_cons_zero] at hA2
                  subst hA2
                  clear u0 u1 u2 u3 u4 u5 u6
                  have hM5 := Lib.hid hi
                  clear hi hM4
                  go_wp2_with fail
                  go_roundw
                  case rel => exact ⟨j + 1, t, err, by go_num, by omega, by omega, hM5⟩
                  case measure => simp [intOf]; omega
          · by_cases hj1 : j < len1
            · have hj2 : ¬ j < 60 := fun h => hj ⟨hj1, h⟩
              clear hj
              obtain ⟨E, hE⟩ : ∃ E, endE (bytesOf t) err = E := ⟨_, rfl⟩
              have HE1 := fun W (hb : Hid (Box W gi (bytesOf t) err)) => end_only gi (bytesOf t) err W hb
              have HE2 := fun W (hb : Hid (RBox W gm t err)) => refInEnd_any gm t err W hb
              rw [hE] at HE1 HE2
              have HE1 := Lib.hid HE1
              have HE2 := Lib.hid HE2
              clear hE
              go_wp2_with fail
              let U : Nat → World → Prop := fun j W => match j with | 0 => True | 1 => Box W gi (bytesOf t) err | 2 => True | 3 => RBox W gm t err | 4 => True | 5 => True | 6 => True | 7 => True | 8 => True | 9 => True | 10 => True | 11 => True | 12 => True | 13 => True | 14 => True | _ => True
              let R : Nat → World → World → Prop := fun j W W2 => match j with | 0 => W = W2 | 1 => Only (· = gi) W W2 ∧ Box W2 gi (bytesOf t) E | 2 => W = W2 | 3 => Only (· = gm) W W2 ∧ RBox W2 gm t E | 4 => W = W2 | 5 => W = W2 | 6 => W = W2 | 7 => W = W2 | 8 => W = W2 | 9 => W = W2 | 10 => W = W2 | 11 => W = W2 | 12 => W = W2 | 13 => W = W2 | 14 => W = W2 | _ => W = W2
              let V : Nat → Value → World → Prop := fun j v W => match j with | 0 => v = .pointer (some ⟨gi, 0, none⟩) | 1 => v = .int .i64 E ∧ Box W gi (bytesOf t) E | 2 => v = .pointer (some ⟨gm, 0, none⟩) | 3 => v = .int .i64 E ∧ RBox W gm t E | 4 => v = .bool true ∧ Box W gi (bytesOf t) E ∧ RBox W gm t E | 5 => v = .bool true ∧ Box W gi (bytesOf t) E ∧ RBox W gm t E | 6 => v = .pointer (some ⟨gi, 0, none⟩) | 7 => v = .int .i64 E | 8 => v = .pointer (some ⟨gm, 0, none⟩) | 9 => v = .pointer (some ⟨gm, 0, none⟩) | 10 => v = .pointer (some ⟨gm, 1, none⟩) | 11 => v = .int .i64 E | 12 => v = .bool true | 13 => v = .bool true | 14 => v = .bool true | _ => True
              refine wp_region_fill2 (by kernel_rfl) U V (fun W => Below w.heap.size w W) R (by kernel_rfl) (by kernel_rfl) (hI.out.below.trans ((Below.refl _ _).drew)) ?_ ?_ ?_ ?_ ?_ ?_
              · intro j
                match j with
                | 0 => exact trivial
                | 1 => exact box_later hI.out.box ((Below.refl _ _).drew)
                | 2 => exact trivial
                | 3 => exact rbox_later hI.out.rbox ((Below.refl _ _).drew)
                | 4 => exact trivial
                | 5 => exact trivial
                | 6 => exact trivial
                | 7 => exact trivial
                | 8 => exact trivial
                | 9 => exact trivial
                | 10 => exact trivial
                | 11 => exact trivial
                | 12 => exact trivial
                | 13 => exact trivial
                | 14 => exact trivial
                | n + 15 => exact trivial
              · intro i W W2 hr hi
                match i, hr with
                | 0, hr => exact (show W = W2 from hr) ▸ hi
                | 1, hr => exact only_below2 hi hr.1 hgi' (Nat.le_refl _)
                | 2, hr => exact (show W = W2 from hr) ▸ hi
                | 3, hr => exact only_below2 hi hr.1 hgm' (Nat.le_refl _)
                | 4, hr => exact (show W = W2 from hr) ▸ hi
                | 5, hr => exact (show W = W2 from hr) ▸ hi
                | 6, hr => exact (show W = W2 from hr) ▸ hi
                | 7, hr => exact (show W = W2 from hr) ▸ hi
                | 8, hr => exact (show W = W2 from hr) ▸ hi
                | 9, hr => exact (show W = W2 from hr) ▸ hi
                | 10, hr => exact (show W = W2 from hr) ▸ hi
                | 11, hr => exact (show W = W2 from hr) ▸ hi
                | 12, hr => exact (show W = W2 from hr) ▸ hi
                | 13, hr => exact (show W = W2 from hr) ▸ hi
                | 14, hr => exact (show W = W2 from hr) ▸ hi
                | n + 15, hr => exact (show W = W2 from hr) ▸ hi
              · intro i j W W2 hij hi hui hr h
                match i, hij, hui, hr with
                | 0, hij, hui, hr => exact (show W = W2 from hr) ▸ h
                | 1, hij, hui, hr =>
                  match j, hij, h with
                  | 0, hij, h => exact h
                  | 1, hij, h => exact absurd rfl hij
                  | 2, hij, h => exact h
                  | 3, hij, h => exact rbox_keep h hr.1 (Ne.symm hne)
                  | 4, hij, h => exact h
                  | 5, hij, h => exact h
                  | 6, hij, h => exact h
                  | 7, hij, h => exact h
                  | 8, hij, h => exact h
                  | 9, hij, h => exact h
                  | 10, hij, h => exact h
                  | 11, hij, h => exact h
                  | 12, hij, h => exact h
                  | 13, hij, h => exact h
                  | 14, hij, h => exact h
                  | n + 15, hij, h => exact h
                | 2, hij, hui, hr => exact (show W = W2 from hr) ▸ h
                | 3, hij, hui, hr =>
                  match j, hij, h with
                  | 0, hij, h => exact h
                  | 1, hij, h => exact box_keep h hui hr.1 hne
                  | 2, hij, h => exact h
                  | 3, hij, h => exact absurd rfl hij
                  | 4, hij, h => exact h
                  | 5, hij, h => exact h
                  | 6, hij, h => exact h
                  | 7, hij, h => exact h
                  | 8, hij, h => exact h
                  | 9, hij, h => exact h
                  | 10, hij, h => exact h
                  | 11, hij, h => exact h
                  | 12, hij, h => exact h
                  | 13, hij, h => exact h
                  | 14, hij, h => exact h
                  | n + 15, hij, h => exact h
                | 4, hij, hui, hr => exact (show W = W2 from hr) ▸ h
                | 5, hij, hui, hr => exact (show W = W2 from hr) ▸ h
                | 6, hij, hui, hr => exact (show W = W2 from hr) ▸ h
                | 7, hij, hui, hr => exact (show W = W2 from hr) ▸ h
                | 8, hij, hui, hr => exact (show W = W2 from hr) ▸ h
                | 9, hij, hui, hr => exact (show W = W2 from hr) ▸ h
                | 10, hij, hui, hr => exact (show W = W2 from hr) ▸ h
                | 11, hij, hui, hr => exact (show W = W2 from hr) ▸ h
                | 12, hij, hui, hr => exact (show W = W2 from hr) ▸ h
                | 13, hij, hui, hr => exact (show W = W2 from hr) ▸ h
                | 14, hij, hui, hr => exact (show W = W2 from hr) ▸ h
                | n + 15, hij, hui, hr => exact (show W = W2 from hr) ▸ h
              · intro i j v W W2 hij hi hui hr h
                match i, hij, hui, hr with
                | 0, hij, hui, hr => exact (show W = W2 from hr) ▸ h
                | 1, hij, hui, hr =>
                  match j, hij, h with
                  | 0, hij, h => exact h
                  | 1, hij, h => exact absurd rfl hij
                  | 2, hij, h => exact h
                  | 3, hij, h => exact ⟨h.1, rbox_keep h.2 hr.1 (Ne.symm hne)⟩
                  | 4, hij, h => exact ⟨h.1, hr.2, rbox_keep h.2.2 hr.1 (Ne.symm hne)⟩
                  | 5, hij, h => exact ⟨h.1, hr.2, rbox_keep h.2.2 hr.1 (Ne.symm hne)⟩
                  | 6, hij, h => exact h
                  | 7, hij, h => exact h
                  | 8, hij, h => exact h
                  | 9, hij, h => exact h
                  | 10, hij, h => exact h
                  | 11, hij, h => exact h
                  | 12, hij, h => exact h
                  | 13, hij, h => exact h
                  | 14, hij, h => exact h
                  | n + 15, hij, h => exact h
                | 2, hij, hui, hr => exact (show W = W2 from hr) ▸ h
                | 3, hij, hui, hr =>
                  match j, hij, h with
                  | 0, hij, h => exact h
                  | 1, hij, h => exact ⟨h.1, box_keep h.2 hui hr.1 hne⟩
                  | 2, hij, h => exact h
                  | 3, hij, h => exact absurd rfl hij
                  | 4, hij, h => exact ⟨h.1, box_keep h.2.1 hui hr.1 hne, hr.2⟩
                  | 5, hij, h => exact ⟨h.1, box_keep h.2.1 hui hr.1 hne, hr.2⟩
                  | 6, hij, h => exact h
                  | 7, hij, h => exact h
                  | 8, hij, h => exact h
                  | 9, hij, h => exact h
                  | 10, hij, h => exact h
                  | 11, hij, h => exact h
                  | 12, hij, h => exact h
                  | 13, hij, h => exact h
                  | 14, hij, h => exact h
                  | n + 15, hij, h => exact h
                | 4, hij, hui, hr => exact (show W = W2 from hr) ▸ h
                | 5, hij, hui, hr => exact (show W = W2 from hr) ▸ h
                | 6, hij, hui, hr => exact (show W = W2 from hr) ▸ h
                | 7, hij, hui, hr => exact (show W = W2 from hr) ▸ h
                | 8, hij, hui, hr => exact (show W = W2 from hr) ▸ h
                | 9, hij, hui, hr => exact (show W = W2 from hr) ▸ h
                | 10, hij, hui, hr => exact (show W = W2 from hr) ▸ h
                | 11, hij, hui, hr => exact (show W = W2 from hr) ▸ h
                | 12, hij, hui, hr => exact (show W = W2 from hr) ▸ h
                | 13, hij, hui, hr => exact (show W = W2 from hr) ▸ h
                | 14, hij, hui, hr => exact (show W = W2 from hr) ▸ h
                | n + 15, hij, hui, hr => exact (show W = W2 from hr) ▸ h
              · intro i o ho a W hN hi hui h
                match i, ho, hui with
                | 0, ho, hui =>
                  obtain rfl := Option.some.inj (show some _ = some o from ho)
                  have e6 : a.eval (.tmp 6) = .pointer (some ⟨gi, 0, none⟩) := hN.eval 6 (by kernel_rfl)
                  refine fill_value (v := .pointer (some ⟨gi, 0, none⟩)) ho rfl (by rfl) (by clear h hN; have hcst : ∀ v, a.eval (.const v) = v := (fun _ => rfl); have hfun : ∀ f, a.eval (.func f) = .func (.func f) #[] #[] := (fun _ => rfl); generalize a.eval = ρ at *; go_simp) rfl (show W = W from rfl)
                | 1, ho, hui =>
                  obtain rfl := Option.some.inj (show some _ = some o from ho)
                  have e152 : a.eval (.tmp 152) = .pointer (some ⟨gi, 0, none⟩) := h ⟨0, .data⟩ (by simp) rfl
                  refine fill_enter (f := 17) (args := #[.pointer (some ⟨gi, 0, none⟩)]) ho rfl (by rfl) (by clear h hN; have hcst : ∀ v, a.eval (.const v) = v := (fun _ => rfl); have hfun : ∀ f, a.eval (.func f) = .func (.func f) #[] #[] := (fun _ => rfl); generalize a.eval = ρ at *; go_simp) (HE1.out W (Lib.hid hui)) ?_
                  rintro e w2 ⟨rfl, h5, h6⟩
                  exact ⟨_, rfl, ⟨rfl, h5⟩, ⟨h6, h5⟩⟩
                | 2, ho, hui =>
                  obtain rfl := Option.some.inj (show some _ = some o from ho)
                  have e7 : a.eval (.tmp 7) = .pointer (some ⟨gm, 0, none⟩) := hN.eval 7 (by kernel_rfl)
                  refine fill_value (v := .pointer (some ⟨gm, 0, none⟩)) ho rfl (by rfl) (by clear h hN; have hcst : ∀ v, a.eval (.const v) = v := (fun _ => rfl); have hfun : ∀ f, a.eval (.func f) = .func (.func f) #[] #[] := (fun _ => rfl); generalize a.eval = ρ at *; go_simp) rfl (show W = W from rfl)
                | 3, ho, hui =>
                  obtain rfl := Option.some.inj (show some _ = some o from ho)
                  have e154 : a.eval (.tmp 154) = .pointer (some ⟨gm, 0, none⟩) := h ⟨2, .data⟩ (by simp) rfl
                  refine fill_enter (f := 23) (args := #[.pointer (some ⟨gm, 0, none⟩)]) ho rfl (by rfl) (by clear h hN; have hcst : ∀ v, a.eval (.const v) = v := (fun _ => rfl); have hfun : ∀ f, a.eval (.func f) = .func (.func f) #[] #[] := (fun _ => rfl); generalize a.eval = ρ at *; go_simp) (HE2.out W (Lib.hid hui)) ?_
                  rintro e w2 ⟨rfl, h5, h6⟩
                  exact ⟨_, rfl, ⟨rfl, h5⟩, ⟨h6, h5⟩⟩
                | 4, ho, hui =>
                  obtain rfl := Option.some.inj (show some _ = some o from ho)
                  obtain ⟨e153, p153⟩ : a.eval (.tmp 153) = .int .i64 E ∧ Box W gi (bytesOf t) E := h ⟨1, .data⟩ (by simp) rfl
                  obtain ⟨e155, p155⟩ : a.eval (.tmp 155) = .int .i64 E ∧ RBox W gm t E := h ⟨3, .data⟩ (by simp) rfl
                  refine fill_value (v := .bool true) ho rfl (by rfl) (by clear h hN; have hcst : ∀ v, a.eval (.const v) = v := (fun _ => rfl); have hfun : ∀ f, a.eval (.func f) = .func (.func f) #[] #[] := (fun _ => rfl); generalize a.eval = ρ at *; go_simp) ⟨rfl, p153, p155⟩ (show W = W from rfl)
                | 5, ho, hui =>
                  obtain rfl := Option.some.inj (show some _ = some o from ho)
                  obtain ⟨e156, p156⟩ : a.eval (.tmp 156) = .bool true ∧ Box W gi (bytesOf t) E ∧ RBox W gm t E := h ⟨4, .data⟩ (by simp) rfl
                  refine fill_value (v := .bool true) ho rfl (by rfl) (by clear h hN; have hcst : ∀ v, a.eval (.const v) = v := (fun _ => rfl); have hfun : ∀ f, a.eval (.func f) = .func (.func f) #[] #[] := (fun _ => rfl); generalize a.eval = ρ at *; go_simp) ⟨rfl, p156⟩ (show W = W from rfl)
                | 6, ho, hui =>
                  obtain rfl := Option.some.inj (show some _ = some o from ho)
                  have e6 : a.eval (.tmp 6) = .pointer (some ⟨gi, 0, none⟩) := hN.eval 6 (by kernel_rfl)
                  refine fill_value (v := .pointer (some ⟨gi, 0, none⟩)) ho rfl (guard_is true rfl rfl (show a.eval (.tmp 157) = .bool true from (show a.eval (.tmp 157) = .bool true ∧ Box W gi (bytesOf t) E ∧ RBox W gm t E from h ⟨5, .guard⟩ (by simp) rfl).1)) (by clear h hN; have hcst : ∀ v, a.eval (.const v) = v := (fun _ => rfl); have hfun : ∀ f, a.eval (.func f) = .func (.func f) #[] #[] := (fun _ => rfl); generalize a.eval = ρ at *; go_simp) rfl (show W = W from rfl)
                | 7, ho, hui =>
                  obtain rfl := Option.some.inj (show some _ = some o from ho)
                  have e158 : a.eval (.tmp 158) = .pointer (some ⟨gi, 0, none⟩) := h ⟨6, .data⟩ (by simp) rfl
                  have q5 : Box W gi (bytesOf t) E ∧ RBox W gm t E := (show a.eval (.tmp 157) = .bool true ∧ (Box W gi (bytesOf t) E ∧ RBox W gm t E) from h ⟨5, .guard⟩ (by simp) rfl).2
                  refine fill_enter (f := 16) (args := #[.pointer (some ⟨gi, 0, none⟩)]) ho rfl (guard_is true rfl rfl (show a.eval (.tmp 157) = .bool true from (show a.eval (.tmp 157) = .bool true ∧ Box W gi (bytesOf t) E ∧ RBox W gm t E from h ⟨5, .guard⟩ (by simp) rfl).1)) (by clear h hN; have hcst : ∀ v, a.eval (.const v) = v := (fun _ => rfl); have hfun : ∀ f, a.eval (.func f) = .func (.func f) #[] #[] := (fun _ => rfl); generalize a.eval = ρ at *; go_simp) (err_any gi (bytesOf t) E W (Lib.hid q5.1)) ?_
                  rintro e w2 ⟨rfl, rfl⟩
                  exact ⟨_, rfl, rfl, (show W = W from rfl)⟩
                | 8, ho, hui =>
                  obtain rfl := Option.some.inj (show some _ = some o from ho)
                  have e7 : a.eval (.tmp 7) = .pointer (some ⟨gm, 0, none⟩) := hN.eval 7 (by kernel_rfl)
                  refine fill_value (v := .pointer (some ⟨gm, 0, none⟩)) ho rfl (guard_is true rfl rfl (show a.eval (.tmp 157) = .bool true from (show a.eval (.tmp 157) = .bool true ∧ Box W gi (bytesOf t) E ∧ RBox W gm t E from h ⟨5, .guard⟩ (by simp) rfl).1)) (by clear h hN; have hcst : ∀ v, a.eval (.const v) = v := (fun _ => rfl); have hfun : ∀ f, a.eval (.func f) = .func (.func f) #[] #[] := (fun _ => rfl); generalize a.eval = ρ at *; go_simp) rfl (show W = W from rfl)
                | 9, ho, hui =>
                  obtain rfl := Option.some.inj (show some _ = some o from ho)
                  have e160 : a.eval (.tmp 160) = .pointer (some ⟨gm, 0, none⟩) := h ⟨8, .data⟩ (by simp) rfl
                  refine fill_value (v := .pointer (some ⟨gm, 0, none⟩)) ho rfl (guard_is true rfl rfl (show a.eval (.tmp 157) = .bool true from (show a.eval (.tmp 157) = .bool true ∧ Box W gi (bytesOf t) E ∧ RBox W gm t E from h ⟨5, .guard⟩ (by simp) rfl).1)) (by clear h hN; have hcst : ∀ v, a.eval (.const v) = v := (fun _ => rfl); have hfun : ∀ f, a.eval (.func f) = .func (.func f) #[] #[] := (fun _ => rfl); generalize a.eval = ρ at *; go_simp) rfl (show W = W from rfl)
                | 10, ho, hui =>
                  obtain rfl := Option.some.inj (show some _ = some o from ho)
                  have e161 : a.eval (.tmp 161) = .pointer (some ⟨gm, 0, none⟩) := h ⟨9, .data⟩ (by simp) rfl
                  refine fill_value (v := .pointer (some ⟨gm, 1, none⟩)) ho rfl (guard_is true rfl rfl (show a.eval (.tmp 157) = .bool true from (show a.eval (.tmp 157) = .bool true ∧ Box W gi (bytesOf t) E ∧ RBox W gm t E from h ⟨5, .guard⟩ (by simp) rfl).1)) (by clear h hN; have hcst : ∀ v, a.eval (.const v) = v := (fun _ => rfl); have hfun : ∀ f, a.eval (.func f) = .func (.func f) #[] #[] := (fun _ => rfl); generalize a.eval = ρ at *; go_simp) rfl (show W = W from rfl)
                | 11, ho, hui =>
                  obtain rfl := Option.some.inj (show some _ = some o from ho)
                  have e162 : a.eval (.tmp 162) = .pointer (some ⟨gm, 1, none⟩) := h ⟨10, .data⟩ (by simp) rfl
                  have q5 : Box W gi (bytesOf t) E ∧ RBox W gm t E := (show a.eval (.tmp 157) = .bool true ∧ (Box W gi (bytesOf t) E ∧ RBox W gm t E) from h ⟨5, .guard⟩ (by simp) rfl).2
                  have hc := box_cell1 q5.2
                  refine fill_value (v := .int .i64 E) ho rfl (guard_is true rfl rfl (show a.eval (.tmp 157) = .bool true from (show a.eval (.tmp 157) = .bool true ∧ Box W gi (bytesOf t) E ∧ RBox W gm t E from h ⟨5, .guard⟩ (by simp) rfl).1)) (by clear h hN; have hcst : ∀ v, a.eval (.const v) = v := (fun _ => rfl); have hfun : ∀ f, a.eval (.func f) = .func (.func f) #[] #[] := (fun _ => rfl); generalize a.eval = ρ at *; go_simp) rfl (show W = W from rfl)
                | 12, ho, hui =>
                  obtain rfl := Option.some.inj (show some _ = some o from ho)
                  have e159 : a.eval (.tmp 159) = .int .i64 E := h ⟨7, .data⟩ (by simp) rfl
                  have e163 : a.eval (.tmp 163) = .int .i64 E := h ⟨11, .data⟩ (by simp) rfl
                  refine fill_value (v := .bool true) ho rfl (guard_is true rfl rfl (show a.eval (.tmp 157) = .bool true from (show a.eval (.tmp 157) = .bool true ∧ Box W gi (bytesOf t) E ∧ RBox W gm t E from h ⟨5, .guard⟩ (by simp) rfl).1)) (by clear h hN; have hcst : ∀ v, a.eval (.const v) = v := (fun _ => rfl); have hfun : ∀ f, a.eval (.func f) = .func (.func f) #[] #[] := (fun _ => rfl); generalize a.eval = ρ at *; go_simp) rfl (show W = W from rfl)
                | 13, ho, hui =>
                  obtain rfl := Option.some.inj (show some _ = some o from ho)
                  obtain ⟨e157, p157⟩ : a.eval (.tmp 157) = .bool true ∧ Box W gi (bytesOf t) E ∧ RBox W gm t E := h ⟨5, .data⟩ (by simp) rfl
                  have e164 : a.eval (.tmp 164) = .bool true := h ⟨12, .data⟩ (by simp) rfl
                  refine fill_value (v := .bool true) ho rfl (by rfl) (by clear h hN; have hcst : ∀ v, a.eval (.const v) = v := (fun _ => rfl); have hfun : ∀ f, a.eval (.func f) = .func (.func f) #[] #[] := (fun _ => rfl); generalize a.eval = ρ at *; go_simp) rfl (show W = W from rfl)
                | 14, ho, hui =>
                  obtain rfl := Option.some.inj (show some _ = some o from ho)
                  have e165 : a.eval (.tmp 165) = .bool true := h ⟨13, .data⟩ (by simp) rfl
                  refine fill_value (v := .bool true) ho rfl (by rfl) (by clear h hN; have hcst : ∀ v, a.eval (.const v) = v := (fun _ => rfl); have hfun : ∀ f, a.eval (.func f) = .func (.func f) #[] #[] := (fun _ => rfl); generalize a.eval = ρ at *; go_simp) rfl (show W = W from rfl)
                | n + 15, ho, hui => exact absurd ho (by simp)
              · intro vals W hi h
                have u0 : vals 0 = .pointer (some ⟨gi, 0, none⟩) := h 0 (by decide)
                obtain ⟨u1, p1⟩ : vals 1 = .int .i64 E ∧ Box W gi (bytesOf t) E := h 1 (by decide)
                have u2 : vals 2 = .pointer (some ⟨gm, 0, none⟩) := h 2 (by decide)
                obtain ⟨u3, p3⟩ : vals 3 = .int .i64 E ∧ RBox W gm t E := h 3 (by decide)
                obtain ⟨u4, p4⟩ : vals 4 = .bool true ∧ Box W gi (bytesOf t) E ∧ RBox W gm t E := h 4 (by decide)
                obtain ⟨u5, p5⟩ : vals 5 = .bool true ∧ Box W gi (bytesOf t) E ∧ RBox W gm t E := h 5 (by decide)
                have u6 : vals 6 = .pointer (some ⟨gi, 0, none⟩) := h 6 (by decide)
                have u7 : vals 7 = .int .i64 E := h 7 (by decide)
                have u8 : vals 8 = .pointer (some ⟨gm, 0, none⟩) := h 8 (by decide)
                have u9 : vals 9 = .pointer (some ⟨gm, 0, none⟩) := h 9 (by decide)
                have u10 : vals 10 = .pointer (some ⟨gm, 1, none⟩) := h 10 (by decide)
                have u11 : vals 11 = .int .i64 E := h 11 (by decide)
                have u12 : vals 12 = .bool true := h 12 (by decide)
                have u13 : vals 13 = .bool true := h 13 (by decide)
                have u14 : vals 14 = .bool true := h 14 (by decide)
                generalize hA : fill _ _ _ _ = A
                have hA2 : (Act.put (Act.put (Act.put (Act.put (Act.put (Act.put (Act.put (Act.put (Act.put (Act.put (Act.put (Act.put (Act.put (Act.put (Act.put (_ : Act) (some 152) (vals 0)) (some 153) (vals 1)) (some 154) (vals 2)) (some 155) (vals 3)) (some 156) (vals 4)) (some 157) (vals 5)) (some 158) (vals 6)) (some 159) (vals 7)) (some 160) (vals 8)) (some 161) (vals 9)) (some 162) (vals 10)) (some 163) (vals 11)) (some 164) (vals 12)) (some 165) (vals 13)) (some 4) (vals 14)) = A := hA
                clear hA h V R U
                rw [u0, u1, u2, u3, u4, u5, u6, u7, u8, u9, u10, u11, u12, u13, u14] at hA2
                simp only [fill, Act.put, List.setIfInBounds_toArray, List.set_cons_succ, List.set_cons_zero] at hA2
                subst hA2
                clear u0 u1 u2 u3 u4 u5 u6 u7 u8 u9 u10 u11 u12 u13 u14
                clear p1 p3 p4 p5
                go_wp2_with fail
                go_ret
                exact ⟨rfl, hi⟩
            · clear hj
              obtain ⟨E, hE⟩ : ∃ E, endE (bytesOf t) err = E := ⟨_, rfl⟩
              have HE1 := fun W (hb : Hid (Box W gi (bytesOf t) err)) => end_only gi (bytesOf t) err W hb
              have HE2 := fun W (hb : Hid (RBox W gm t err)) => refInEnd_any gm t err W hb
              rw [hE] at HE1 HE2
              have HE1 := Lib.hid HE1
              have HE2 := Lib.hid HE2
              clear hE
              go_wp2_with fail
              let U : Nat → World → Prop := fun j W => match j with | 0 => True | 1 => Box W gi (bytesOf t) err | 2 => True | 3 => RBox W gm t err | 4 => True | 5 => True | 6 => True | 7 => True | 8 => True | 9 => True | 10 => True | 11 => True | 12 => True | 13 => True | 14 => True | _ => True
              let R : Nat → World → World → Prop := fun j W W2 => match j with | 0 => W = W2 | 1 => Only (· = gi) W W2 ∧ Box W2 gi (bytesOf t) E | 2 => W = W2 | 3 => Only (· = gm) W W2 ∧ RBox W2 gm t E | 4 => W = W2 | 5 => W = W2 | 6 => W = W2 | 7 => W = W2 | 8 => W = W2 | 9 => W = W2 | 10 => W = W2 | 11 => W = W2 | 12 => W = W2 | 13 => W = W2 | 14 => W = W2 | _ => W = W2
              let V : Nat → Value → World → Prop := fun j v W => match j with | 0 => v = .pointer (some ⟨gi, 0, none⟩) | 1 => v = .int .i64 E ∧ Box W gi (bytesOf t) E | 2 => v = .pointer (some ⟨gm, 0, none⟩) | 3 => v = .int .i64 E ∧ RBox W gm t E | 4 => v = .bool true ∧ Box W gi (bytesOf t) E ∧ RBox W gm t E | 5 => v = .bool true ∧ Box W gi (bytesOf t) E ∧ RBox W gm t E | 6 => v = .pointer (some ⟨gi, 0, none⟩) | 7 => v = .int .i64 E | 8 => v = .pointer (some ⟨gm, 0, none⟩) | 9 => v = .pointer (some ⟨gm, 0, none⟩) | 10 => v = .pointer (some ⟨gm, 1, none⟩) | 11 => v = .int .i64 E | 12 => v = .bool true | 13 => v = .bool true | 14 => v = .bool true | _ => True
              refine wp_region_fill2 (by kernel_rfl) U V (fun W => Below w.heap.size w W) R (by kernel_rfl) (by kernel_rfl) (hI.out.below.trans ((Below.refl _ _).drew)) ?_ ?_ ?_ ?_ ?_ ?_
              · intro j
                match j with
                | 0 => exact trivial
                | 1 => exact box_later hI.out.box ((Below.refl _ _).drew)
                | 2 => exact trivial
                | 3 => exact rbox_later hI.out.rbox ((Below.refl _ _).drew)
                | 4 => exact trivial
                | 5 => exact trivial
                | 6 => exact trivial
                | 7 => exact trivial
                | 8 => exact trivial
                | 9 => exact trivial
                | 10 => exact trivial
                | 11 => exact trivial
                | 12 => exact trivial
                | 13 => exact trivial
                | 14 => exact trivial
                | n + 15 => exact trivial
              · intro i W W2 hr hi
                match i, hr with
                | 0, hr => exact (show W = W2 from hr) ▸ hi
                | 1, hr => exact only_below2 hi hr.1 hgi' (Nat.le_refl _)
                | 2, hr => exact (show W = W2 from hr) ▸ hi
                | 3, hr => exact only_below2 hi hr.1 hgm' (Nat.le_refl _)
                | 4, hr => exact (show W = W2 from hr) ▸ hi
                | 5, hr => exact (show W = W2 from hr) ▸ hi
                | 6, hr => exact (show W = W2 from hr) ▸ hi
                | 7, hr => exact (show W = W2 from hr) ▸ hi
                | 8, hr => exact (show W = W2 from hr) ▸ hi
                | 9, hr => exact (show W = W2 from hr) ▸ hi
                | 10, hr => exact (show W = W2 from hr) ▸ hi
                | 11, hr => exact (show W = W2 from hr) ▸ hi
                | 12, hr => exact (show W = W2 from hr) ▸ hi
                | 13, hr => exact (show W = W2 from hr) ▸ hi
                | 14, hr => exact (show W = W2 from hr) ▸ hi
                | n + 15, hr => exact (show W = W2 from hr) ▸ hi
              · intro i j W W2 hij hi hui hr h
                match i, hij, hui, hr with
                | 0, hij, hui, hr => exact (show W = W2 from hr) ▸ h
                | 1, hij, hui, hr =>
                  match j, hij, h with
                  | 0, hij, h => exact h
                  | 1, hij, h => exact absurd rfl hij
                  | 2, hij, h => exact h
                  | 3, hij, h => exact rbox_keep h hr.1 (Ne.symm hne)
                  | 4, hij, h => exact h
                  | 5, hij, h => exact h
                  | 6, hij, h => exact h
                  | 7, hij, h => exact h
                  | 8, hij, h => exact h
                  | 9, hij, h => exact h
                  | 10, hij, h => exact h
                  | 11, hij, h => exact h
                  | 12, hij, h => exact h
                  | 13, hij, h => exact h
                  | 14, hij, h => exact h
                  | n + 15, hij, h => exact h
                | 2, hij, hui, hr => exact (show W = W2 from hr) ▸ h
                | 3, hij, hui, hr =>
                  match j, hij, h with
                  | 0, hij, h => exact h
                  | 1, hij, h => exact box_keep h hui hr.1 hne
                  | 2, hij, h => exact h
                  | 3, hij, h => exact absurd rfl hij
                  | 4, hij, h => exact h
                  | 5, hij, h => exact h
                  | 6, hij, h => exact h
                  | 7, hij, h => exact h
                  | 8, hij, h => exact h
                  | 9, hij, h => exact h
                  | 10, hij, h => exact h
                  | 11, hij, h => exact h
                  | 12, hij, h => exact h
                  | 13, hij, h => exact h
                  | 14, hij, h => exact h
                  | n + 15, hij, h => exact h
                | 4, hij, hui, hr => exact (show W = W2 from hr) ▸ h
                | 5, hij, hui, hr => exact (show W = W2 from hr) ▸ h
                | 6, hij, hui, hr => exact (show W = W2 from hr) ▸ h
                | 7, hij, hui, hr => exact (show W = W2 from hr) ▸ h
                | 8, hij, hui, hr => exact (show W = W2 from hr) ▸ h
                | 9, hij, hui, hr => exact (show W = W2 from hr) ▸ h
                | 10, hij, hui, hr => exact (show W = W2 from hr) ▸ h
                | 11, hij, hui, hr => exact (show W = W2 from hr) ▸ h
                | 12, hij, hui, hr => exact (show W = W2 from hr) ▸ h
                | 13, hij, hui, hr => exact (show W = W2 from hr) ▸ h
                | 14, hij, hui, hr => exact (show W = W2 from hr) ▸ h
                | n + 15, hij, hui, hr => exact (show W = W2 from hr) ▸ h
              · intro i j v W W2 hij hi hui hr h
                match i, hij, hui, hr with
                | 0, hij, hui, hr => exact (show W = W2 from hr) ▸ h
                | 1, hij, hui, hr =>
                  match j, hij, h with
                  | 0, hij, h => exact h
                  | 1, hij, h => exact absurd rfl hij
                  | 2, hij, h => exact h
                  | 3, hij, h => exact ⟨h.1, rbox_keep h.2 hr.1 (Ne.symm hne)⟩
                  | 4, hij, h => exact ⟨h.1, hr.2, rbox_keep h.2.2 hr.1 (Ne.symm hne)⟩
                  | 5, hij, h => exact ⟨h.1, hr.2, rbox_keep h.2.2 hr.1 (Ne.symm hne)⟩
                  | 6, hij, h => exact h
                  | 7, hij, h => exact h
                  | 8, hij, h => exact h
                  | 9, hij, h => exact h
                  | 10, hij, h => exact h
                  | 11, hij, h => exact h
                  | 12, hij, h => exact h
                  | 13, hij, h => exact h
                  | 14, hij, h => exact h
                  | n + 15, hij, h => exact h
                | 2, hij, hui, hr => exact (show W = W2 from hr) ▸ h
                | 3, hij, hui, hr =>
                  match j, hij, h with
                  | 0, hij, h => exact h
                  | 1, hij, h => exact ⟨h.1, box_keep h.2 hui hr.1 hne⟩
                  | 2, hij, h => exact h
                  | 3, hij, h => exact absurd rfl hij
                  | 4, hij, h => exact ⟨h.1, box_keep h.2.1 hui hr.1 hne, hr.2⟩
                  | 5, hij, h => exact ⟨h.1, box_keep h.2.1 hui hr.1 hne, hr.2⟩
                  | 6, hij, h => exact h
                  | 7, hij, h => exact h
                  | 8, hij, h => exact h
                  | 9, hij, h => exact h
                  | 10, hij, h => exact h
                  | 11, hij, h => exact h
                  | 12, hij, h => exact h
                  | 13, hij, h => exact h
                  | 14, hij, h => exact h
                  | n + 15, hij, h => exact h
                | 4, hij, hui, hr => exact (show W = W2 from hr) ▸ h
                | 5, hij, hui, hr => exact (show W = W2 from hr) ▸ h
                | 6, hij, hui, hr => exact (show W = W2 from hr) ▸ h
                | 7, hij, hui, hr => exact (show W = W2 from hr) ▸ h
                | 8, hij, hui, hr => exact (show W = W2 from hr) ▸ h
                | 9, hij, hui, hr => exact (show W = W2 from hr) ▸ h
                | 10, hij, hui, hr => exact (show W = W2 from hr) ▸ h
                | 11, hij, hui, hr => exact (show W = W2 from hr) ▸ h
                | 12, hij, hui, hr => exact (show W = W2 from hr) ▸ h
                | 13, hij, hui, hr => exact (show W = W2 from hr) ▸ h
                | 14, hij, hui, hr => exact (show W = W2 from hr) ▸ h
                | n + 15, hij, hui, hr => exact (show W = W2 from hr) ▸ h
              · intro i o ho a W hN hi hui h
                match i, ho, hui with
                | 0, ho, hui =>
                  obtain rfl := Option.some.inj (show some _ = some o from ho)
                  have e6 : a.eval (.tmp 6) = .pointer (some ⟨gi, 0, none⟩) := hN.eval 6 (by kernel_rfl)
                  refine fill_value (v := .pointer (some ⟨gi, 0, none⟩)) ho rfl (by rfl) (by clear h hN; have hcst : ∀ v, a.eval (.const v) = v := (fun _ => rfl); have hfun : ∀ f, a.eval (.func f) = .func (.func f) #[] #[] := (fun _ => rfl); generalize a.eval = ρ at *; go_simp) rfl (show W = W from rfl)
                | 1, ho, hui =>
                  obtain rfl := Option.some.inj (show some _ = some o from ho)
                  have e152 : a.eval (.tmp 152) = .pointer (some ⟨gi, 0, none⟩) := h ⟨0, .data⟩ (by simp) rfl
                  refine fill_enter (f := 17) (args := #[.pointer (some ⟨gi, 0, none⟩)]) ho rfl (by rfl) (by clear h hN; have hcst : ∀ v, a.eval (.const v) = v := (fun _ => rfl); have hfun : ∀ f, a.eval (.func f) = .func (.func f) #[] #[] := (fun _ => rfl); generalize a.eval = ρ at *; go_simp) (HE1.out W (Lib.hid hui)) ?_
                  rintro e w2 ⟨rfl, h5, h6⟩
                  exact ⟨_, rfl, ⟨rfl, h5⟩, ⟨h6, h5⟩⟩
                | 2, ho, hui =>
                  obtain rfl := Option.some.inj (show some _ = some o from ho)
                  have e7 : a.eval (.tmp 7) = .pointer (some ⟨gm, 0, none⟩) := hN.eval 7 (by kernel_rfl)
                  refine fill_value (v := .pointer (some ⟨gm, 0, none⟩)) ho rfl (by rfl) (by clear h hN; have hcst : ∀ v, a.eval (.const v) = v := (fun _ => rfl); have hfun : ∀ f, a.eval (.func f) = .func (.func f) #[] #[] := (fun _ => rfl); generalize a.eval = ρ at *; go_simp) rfl (show W = W from rfl)
                | 3, ho, hui =>
                  obtain rfl := Option.some.inj (show some _ = some o from ho)
                  have e154 : a.eval (.tmp 154) = .pointer (some ⟨gm, 0, none⟩) := h ⟨2, .data⟩ (by simp) rfl
                  refine fill_enter (f := 23) (args := #[.pointer (some ⟨gm, 0, none⟩)]) ho rfl (by rfl) (by clear h hN; have hcst : ∀ v, a.eval (.const v) = v := (fun _ => rfl); have hfun : ∀ f, a.eval (.func f) = .func (.func f) #[] #[] := (fun _ => rfl); generalize a.eval = ρ at *; go_simp) (HE2.out W (Lib.hid hui)) ?_
                  rintro e w2 ⟨rfl, h5, h6⟩
                  exact ⟨_, rfl, ⟨rfl, h5⟩, ⟨h6, h5⟩⟩
                | 4, ho, hui =>
                  obtain rfl := Option.some.inj (show some _ = some o from ho)
                  obtain ⟨e153, p153⟩ : a.eval (.tmp 153) = .int .i64 E ∧ Box W gi (bytesOf t) E := h ⟨1, .data⟩ (by simp) rfl
                  obtain ⟨e155, p155⟩ : a.eval (.tmp 155) = .int .i64 E ∧ RBox W gm t E := h ⟨3, .data⟩ (by simp) rfl
                  refine fill_value (v := .bool true) ho rfl (by rfl) (by clear h hN; have hcst : ∀ v, a.eval (.const v) = v := (fun _ => rfl); have hfun : ∀ f, a.eval (.func f) = .func (.func f) #[] #[] := (fun _ => rfl); generalize a.eval = ρ at *; go_simp) ⟨rfl, p153, p155⟩ (show W = W from rfl)
                | 5, ho, hui =>
                  obtain rfl := Option.some.inj (show some _ = some o from ho)
                  obtain ⟨e156, p156⟩ : a.eval (.tmp 156) = .bool true ∧ Box W gi (bytesOf t) E ∧ RBox W gm t E := h ⟨4, .data⟩ (by simp) rfl
                  refine fill_value (v := .bool true) ho rfl (by rfl) (by clear h hN; have hcst : ∀ v, a.eval (.const v) = v := (fun _ => rfl); have hfun : ∀ f, a.eval (.func f) = .func (.func f) #[] #[] := (fun _ => rfl); generalize a.eval = ρ at *; go_simp) ⟨rfl, p156⟩ (show W = W from rfl)
                | 6, ho, hui =>
                  obtain rfl := Option.some.inj (show some _ = some o from ho)
                  have e6 : a.eval (.tmp 6) = .pointer (some ⟨gi, 0, none⟩) := hN.eval 6 (by kernel_rfl)
                  refine fill_value (v := .pointer (some ⟨gi, 0, none⟩)) ho rfl (guard_is true rfl rfl (show a.eval (.tmp 157) = .bool true from (show a.eval (.tmp 157) = .bool true ∧ Box W gi (bytesOf t) E ∧ RBox W gm t E from h ⟨5, .guard⟩ (by simp) rfl).1)) (by clear h hN; have hcst : ∀ v, a.eval (.const v) = v := (fun _ => rfl); have hfun : ∀ f, a.eval (.func f) = .func (.func f) #[] #[] := (fun _ => rfl); generalize a.eval = ρ at *; go_simp) rfl (show W = W from rfl)
                | 7, ho, hui =>
                  obtain rfl := Option.some.inj (show some _ = some o from ho)
                  have e158 : a.eval (.tmp 158) = .pointer (some ⟨gi, 0, none⟩) := h ⟨6, .data⟩ (by simp) rfl
                  have q5 : Box W gi (bytesOf t) E ∧ RBox W gm t E := (show a.eval (.tmp 157) = .bool true ∧ (Box W gi (bytesOf t) E ∧ RBox W gm t E) from h ⟨5, .guard⟩ (by simp) rfl).2
                  refine fill_enter (f := 16) (args := #[.pointer (some ⟨gi, 0, none⟩)]) ho rfl (guard_is true rfl rfl (show a.eval (.tmp 157) = .bool true from (show a.eval (.tmp 157) = .bool true ∧ Box W gi (bytesOf t) E ∧ RBox W gm t E from h ⟨5, .guard⟩ (by simp) rfl).1)) (by clear h hN; have hcst : ∀ v, a.eval (.const v) = v := (fun _ => rfl); have hfun : ∀ f, a.eval (.func f) = .func (.func f) #[] #[] := (fun _ => rfl); generalize a.eval = ρ at *; go_simp) (err_any gi (bytesOf t) E W (Lib.hid q5.1)) ?_
                  rintro e w2 ⟨rfl, rfl⟩
                  exact ⟨_, rfl, rfl, (show W = W from rfl)⟩
                | 8, ho, hui =>
                  obtain rfl := Option.some.inj (show some _ = some o from ho)
                  have e7 : a.eval (.tmp 7) = .pointer (some ⟨gm, 0, none⟩) := hN.eval 7 (by kernel_rfl)
                  refine fill_value (v := .pointer (some ⟨gm, 0, none⟩)) ho rfl (guard_is true rfl rfl (show a.eval (.tmp 157) = .bool true from (show a.eval (.tmp 157) = .bool true ∧ Box W gi (bytesOf t) E ∧ RBox W gm t E from h ⟨5, .guard⟩ (by simp) rfl).1)) (by clear h hN; have hcst : ∀ v, a.eval (.const v) = v := (fun _ => rfl); have hfun : ∀ f, a.eval (.func f) = .func (.func f) #[] #[] := (fun _ => rfl); generalize a.eval = ρ at *; go_simp) rfl (show W = W from rfl)
                | 9, ho, hui =>
                  obtain rfl := Option.some.inj (show some _ = some o from ho)
                  have e160 : a.eval (.tmp 160) = .pointer (some ⟨gm, 0, none⟩) := h ⟨8, .data⟩ (by simp) rfl
                  refine fill_value (v := .pointer (some ⟨gm, 0, none⟩)) ho rfl (guard_is true rfl rfl (show a.eval (.tmp 157) = .bool true from (show a.eval (.tmp 157) = .bool true ∧ Box W gi (bytesOf t) E ∧ RBox W gm t E from h ⟨5, .guard⟩ (by simp) rfl).1)) (by clear h hN; have hcst : ∀ v, a.eval (.const v) = v := (fun _ => rfl); have hfun : ∀ f, a.eval (.func f) = .func (.func f) #[] #[] := (fun _ => rfl); generalize a.eval = ρ at *; go_simp) rfl (show W = W from rfl)
                | 10, ho, hui =>
                  obtain rfl := Option.some.inj (show some _ = some o from ho)
                  have e161 : a.eval (.tmp 161) = .pointer (some ⟨gm, 0, none⟩) := h ⟨9, .data⟩ (by simp) rfl
                  refine fill_value (v := .pointer (some ⟨gm, 1, none⟩)) ho rfl (guard_is true rfl rfl (show a.eval (.tmp 157) = .bool true from (show a.eval (.tmp 157) = .bool true ∧ Box W gi (bytesOf t) E ∧ RBox W gm t E from h ⟨5, .guard⟩ (by simp) rfl).1)) (by clear h hN; have hcst : ∀ v, a.eval (.const v) = v := (fun _ => rfl); have hfun : ∀ f, a.eval (.func f) = .func (.func f) #[] #[] := (fun _ => rfl); generalize a.eval = ρ at *; go_simp) rfl (show W = W from rfl)
                | 11, ho, hui =>
                  obtain rfl := Option.some.inj (show some _ = some o from ho)
                  have e162 : a.eval (.tmp 162) = .pointer (some ⟨gm, 1, none⟩) := h ⟨10, .data⟩ (by simp) rfl
                  have q5 : Box W gi (bytesOf t) E ∧ RBox W gm t E := (show a.eval (.tmp 157) = .bool true ∧ (Box W gi (bytesOf t) E ∧ RBox W gm t E) from h ⟨5, .guard⟩ (by simp) rfl).2
                  have hc := box_cell1 q5.2
                  refine fill_value (v := .int .i64 E) ho rfl (guard_is true rfl rfl (show a.eval (.tmp 157) = .bool true from (show a.eval (.tmp 157) = .bool true ∧ Box W gi (bytesOf t) E ∧ RBox W gm t E from h ⟨5, .guard⟩ (by simp) rfl).1)) (by clear h hN; have hcst : ∀ v, a.eval (.const v) = v := (fun _ => rfl); have hfun : ∀ f, a.eval (.func f) = .func (.func f) #[] #[] := (fun _ => rfl); generalize a.eval = ρ at *; go_simp) rfl (show W = W from rfl)
                | 12, ho, hui =>
                  obtain rfl := Option.some.inj (show some _ = some o from ho)
                  have e159 : a.eval (.tmp 159) = .int .i64 E := h ⟨7, .data⟩ (by simp) rfl
                  have e163 : a.eval (.tmp 163) = .int .i64 E := h ⟨11, .data⟩ (by simp) rfl
                  refine fill_value (v := .bool true) ho rfl (guard_is true rfl rfl (show a.eval (.tmp 157) = .bool true from (show a.eval (.tmp 157) = .bool true ∧ Box W gi (bytesOf t) E ∧ RBox W gm t E from h ⟨5, .guard⟩ (by simp) rfl).1)) (by clear h hN; have hcst : ∀ v, a.eval (.const v) = v := (fun _ => rfl); have hfun : ∀ f, a.eval (.func f) = .func (.func f) #[] #[] := (fun _ => rfl); generalize a.eval = ρ at *; go_simp) rfl (show W = W from rfl)
                | 13, ho, hui =>
                  obtain rfl := Option.some.inj (show some _ = some o from ho)
                  obtain ⟨e157, p157⟩ : a.eval (.tmp 157) = .bool true ∧ Box W gi (bytesOf t) E ∧ RBox W gm t E := h ⟨5, .data⟩ (by simp) rfl
                  have e164 : a.eval (.tmp 164) = .bool true := h ⟨12, .data⟩ (by simp) rfl
                  refine fill_value (v := .bool true) ho rfl (by rfl) (by clear h hN; have hcst : ∀ v, a.eval (.const v) = v := (fun _ => rfl); have hfun : ∀ f, a.eval (.func f) = .func (.func f) #[] #[] := (fun _ => rfl); generalize a.eval = ρ at *; go_simp) rfl (show W = W from rfl)
                | 14, ho, hui =>
                  obtain rfl := Option.some.inj (show some _ = some o from ho)
                  have e165 : a.eval (.tmp 165) = .bool true := h ⟨13, .data⟩ (by simp) rfl
                  refine fill_value (v := .bool true) ho rfl (by rfl) (by clear h hN; have hcst : ∀ v, a.eval (.const v) = v := (fun _ => rfl); have hfun : ∀ f, a.eval (.func f) = .func (.func f) #[] #[] := (fun _ => rfl); generalize a.eval = ρ at *; go_simp) rfl (show W = W from rfl)
                | n + 15, ho, hui => exact absurd ho (by simp)
              · intro vals W hi h
                have u0 : vals 0 = .pointer (some ⟨gi, 0, none⟩) := h 0 (by decide)
                obtain ⟨u1, p1⟩ : vals 1 = .int .i64 E ∧ Box W gi (bytesOf t) E := h 1 (by decide)
                have u2 : vals 2 = .pointer (some ⟨gm, 0, none⟩) := h 2 (by decide)
                obtain ⟨u3, p3⟩ : vals 3 = .int .i64 E ∧ RBox W gm t E := h 3 (by decide)
                obtain ⟨u4, p4⟩ : vals 4 = .bool true ∧ Box W gi (bytesOf t) E ∧ RBox W gm t E := h 4 (by decide)
                obtain ⟨u5, p5⟩ : vals 5 = .bool true ∧ Box W gi (bytesOf t) E ∧ RBox W gm t E := h 5 (by decide)
                have u6 : vals 6 = .pointer (some ⟨gi, 0, none⟩) := h 6 (by decide)
                have u7 : vals 7 = .int .i64 E := h 7 (by decide)
                have u8 : vals 8 = .pointer (some ⟨gm, 0, none⟩) := h 8 (by decide)
                have u9 : vals 9 = .pointer (some ⟨gm, 0, none⟩) := h 9 (by decide)
                have u10 : vals 10 = .pointer (some ⟨gm, 1, none⟩) := h 10 (by decide)
                have u11 : vals 11 = .int .i64 E := h 11 (by decide)
                have u12 : vals 12 = .bool true := h 12 (by decide)
                have u13 : vals 13 = .bool true := h 13 (by decide)
                have u14 : vals 14 = .bool true := h 14 (by decide)
                generalize hA : fill _ _ _ _ = A
                have hA2 : (Act.put (Act.put (Act.put (Act.put (Act.put (Act.put (Act.put (Act.put (Act.put (Act.put (Act.put (Act.put (Act.put (Act.put (Act.put (_ : Act) (some 152) (vals 0)) (some 153) (vals 1)) (some 154) (vals 2)) (some 155) (vals 3)) (some 156) (vals 4)) (some 157) (vals 5)) (some 158) (vals 6)) (some 159) (vals 7)) (some 160) (vals 8)) (some 161) (vals 9)) (some 162) (vals 10)) (some 163) (vals 11)) (some 164) (vals 12)) (some 165) (vals 13)) (some 4) (vals 14)) = A := hA
                clear hA h V R U
                rw [u0, u1, u2, u3, u4, u5, u6, u7, u8, u9, u10, u11, u12, u13, u14] at hA2
                simp only [fill, Act.put, List.setIfInBounds_toArray, List.set_cons_succ, List.set_cons_zero] at hA2
                subst hA2
                clear u0 u1 u2 u3 u4 u5 u6 u7 u8 u9 u10 u11 u12 u13 u14
                clear p1 p3 p4 p5
                go_wp2_with fail
                go_ret
                exact ⟨rfl, hi⟩
end Go.Proofs.Ytflgodphphbbjaa
