/- WalStale. -/
import Derived.Test.YtblaogcobhcpaaaDoorWalZF
import Derived.Test.YtblaogcobhcpaaaDoorReg5
namespace Go.Proofs.YtblaogcobhcpaaaDoor
open Go.ChangeShapes Go.WideShapes Go.ChangeAt Go.RowKit
set_option linter.unusedVariables false
set_option maxRecDepth 20000

set_option maxHeartbeats 8000000 in
theorem stale_mid (a0 : Option Addr) (len0 cap0 : Nat) (z0 : List EntS) (a1 : Option Addr) (len1 cap1 : Nat) (pk : Nat → Int) (w : World) (hG : 0 < w.heap.size) (ht : Hid (Fc.Tab w)) (hrow : IsRS 5 4 w a0 len0 cap0 z0) (hpk : ∀ i, i < len1 → ∃ g' o, a1 = some ⟨g', o, none⟩ ∧ w.cell? ⟨g', o + i, none⟩ = some (.int .i64 (pk i))) :
    Calls Tryd.prog 6 #[.slice a0 len0 cap0, .slice a1 len1 cap1] w fun e w' => e = .returned (.bool true) ∧ Below w.heap.size w w' := by
  have HFr := Lib.hid (fresh_any w hG ht)
  have HGh := Lib.hid hG
  have HRow := Lib.hid hrow
  have HPk : Hid (∀ W', Below w.heap.size w W' → ∀ i, i < len1 → ∃ g' o, a1 = some ⟨g', o, none⟩ ∧ W'.cell? ⟨g', o + i, none⟩ = some (.int .i64 (pk i))) := Lib.hid fun W' hW i hi => by
    obtain ⟨g', o, e, hc⟩ := hpk i hi
    exact ⟨g', o, e, (hW.cell (World.block_lt_of_cell? w _ hc)).trans hc⟩
  have hle := rs_le hrow
  clear hG hrow hpk
  go_enter Tryd.func6, Tryd.ntmps6
  go_wp2_with fail
  refine HFr.out.mono ?_
  rintro e w1 ⟨g, l0, rfl, hL1, hb1⟩
  have HLog : Hid (Calls Tryd.prog 10 #[] w1 fun e w' => e = .returned (.bool true) ∧ Hid (Below w1.heap.size w1 w')) := Lib.hid (logs_any w1 (Nat.lt_of_lt_of_le HGh.out hb1.out.size) (Lib.hid (Fc.tab_later ht.out hb1.out)))
  go_wp2_with fail
  refine HLog.out.mono ?_
  rintro e w2 ⟨rfl, hb2⟩
  have HS2 : Hid (St AllLike w.heap.size w2 g l0 1 20) := Lib.hid (by
    obtain ⟨s, h1, h2⟩ := hL1.out
    exact ⟨s, 1, 0, [], 4, 20, h1.below hb2.out, h2, (fun x hx => by cases hx), by decide, by decide⟩)
  have HB2 := Lib.hid (hb1.out.trans (hb2.out.mono hb1.out.size))
  clear hL1 hb1 hb2 HFr HLog ht
  go_wp2_with fail
  go_loopw [6, 8] (fun lv i wr => ∃ j l : Nat, lv = .pointer (some ⟨l, 0, none⟩) ∧ i = .int .i64 (j : Int) ∧ j ≤ 12 ∧ Hid (St AllLike w.heap.size wr g l (1 + j) (20 + 100 * j)) ∧ Hid (Below w.heap.size w wr)) (fun _ i _ => 12 - (intOf i).toNat)
  case atStart => exact ⟨0, l0, rfl, rfl, by omega, HS2, HB2⟩
  case round =>
    obtain ⟨j, l, rfl, rfl, hj, hst, hbl⟩ := hrel
    obtain ⟨wo, rfl⟩ : ∃ wo : World, wo = wr := ⟨_, rfl⟩
    by_cases hlt : j < len0
    · by_cases hlt5 : j < 12
      · have hltI : (j : Int) < (len0 : Int) := by omega
        have hlt5I : (j : Int) < 12 := by omega
        have hw1 : IntKind.i64.wrap ((j : Int) + 1) = ((j + 1 : Nat) : Int) := by rw [IntKind.wrap_i64]; omega
        obtain ⟨ga, oa, sp, n, c, zz, rfl, hcell, hcame, hf⟩ := ent_at (by decide) (by decide) HRow.out j hlt
        obtain ⟨v0, f0, b0, b0'⟩ := hf 0 (by decide) (by decide)
        obtain ⟨v1, f1, _, _⟩ := hf 1 (by decide) (by decide)
        obtain ⟨v2, f2, _, _⟩ := hf 2 (by decide) (by decide)
        obtain ⟨v3, f3, b3, b3'⟩ := hf 3 (by decide) (by decide)
        obtain ⟨q, hq, hqn, hmin, hmin2⟩ : ∃ q : Nat, q ≤ 300 ∧ q ≤ n ∧ min (n : Int) 300 = (q : Int) ∧ (if (300 : Int) < (n : Int) then 300 else (n : Int)) = (q : Int) := ⟨min n 300, by omega, by omega, by omega, by split <;> omega⟩
        obtain ⟨b, hbn, hb256, hbrow⟩ := row_came hcame q hqn
        obtain ⟨U, hU⟩ : ∃ U, Fc.sv b = U := ⟨_, rfl⟩
        have hUs : U.size ≤ 300 := by rw [← hU, sv_size']; omega
        have HCv : Hid (∀ W c', Below w.heap.size w W → (convert 34 9 (.slice sp q c')).run Tryd.prog W = .ok (.string U) W) := Lib.hid fun W c' hW => by
          have h1 := Fc.src_conv0 (Fc.src_later hbrow.src hW) c' (fun e => by
            rw [hbn]
            rcases Fc.came_addr hcame with ⟨_, h2, _⟩ | ⟨x, h2⟩
            · omega
            · rw [e] at h2; cases h2)
          rw [hU, hbn] at h1
          exact h1
        have hcl := Fc.came_le hcame
        have hca := Fc.came_addr hcame
        have hlive : ∀ {a v}, w.cell? a = some v → wo.cell? a = some v := fun h => (hbl.out.cell (World.block_lt_of_cell? w _ h)).trans h
        have c0 : wo.cell? ⟨ga, oa + j * 5, none⟩ = some (.int .i64 v0) := hlive f0
        have c1 := hlive f1
        have c2 := hlive f2
        have c3 := hlive f3
        have c4 := hlive hcell
        have hq0 : (q : Int) ≤ (n : Int) := by omega
        have hq1 : (q : Int) ≤ (c : Int) := by omega
        have hqc : q ≤ c := by omega
        clear hcell hcame hbn hb256 hbrow hU hcl f0 f1 f2 f3 hf hlive HS2 HB2
        have hsl0 : ∀ W, (Instr.slice 34 (.slice sp n c) none (some (.int .i64 (q : Int))) none).run Tryd.prog W = .ok (.slice sp q c) W := fun W => by
          cases sp with
          | none =>
            obtain ⟨rfl, rfl⟩ : n = 0 ∧ c = 0 := by
              rcases hca with ⟨_, h1, h2⟩ | ⟨x, h1⟩
              · exact ⟨h1, h2⟩
              · cases h1
            obtain rfl : q = 0 := by omega
            go_simp
          | some y => go_simp
        clear hca
        go_wp2_with fail
        generalize h7 : World.alloc wo _ = w7
        have HX : Hid (∃ fr, w7.heap[wo.heap.size]? = some (.cells #[.int .i64 v0, .int .i64 v1, .int .i64 v2, .int .i64 v3, .slice sp n c] 52 fr)) := Lib.hid (by
          apply Exists.intro
          rw [← h7]; exact al_new _ _ _ rfl)
        have HB7 : Hid (Below wo.heap.size wo w7) := Lib.hid (by rw [← h7]; exact (Below.refl _ _).alloc (Nat.le_refl _) _)
        have HBW : Hid (∀ W, Below w7.heap.size w7 W → Below w.heap.size w W) := Lib.hid fun W hW => hbl.out.trans ((HB7.out.trans (hW.mono HB7.out.size)).mono hbl.out.size)
        have HSt : Hid (∀ W, Below w7.heap.size w7 W → St AllLike w.heap.size W g l (1 + j) (20 + 100 * j)) := Lib.hid fun W hW => st_below (st_below hst.out HB7.out) hW
        have HAg : Hid (∀ W, Below w7.heap.size w7 W → Calls Tryd.prog 14 #[.pointer (some ⟨l, 0, none⟩)] W fun e w' => ∃ ag : Int, e = .returned (.int .i64 ag) ∧ 0 ≤ ag ∧ ag ≤ 1000 ∧ W = w') := Lib.hid fun W hW => st_age (HSt.out W hW) (by omega)
        have HFi : Hid (∀ a k : Int, 0 ≤ a ∧ a ≤ 10000 → 0 ≤ k ∧ k ≤ 10000 → ∀ W, Calls Tryd.prog 26 #[.int .i64 a, .int .i64 k, .string U] W fun e w' => ∃ t : ByteArray, e = .returned (.string t) ∧ t.size = 512 ∧ Hid (Below W.heap.size W w')) := Lib.hid fun a k ha hk W => firstT_any a k ⟨by omega, by omega⟩ ⟨by omega, by omega⟩ U (by omega) W
        have HHd : Hid (∀ a : Int, 0 ≤ a → a ≤ 10000 → ∀ W, Calls Tryd.prog 25 #[.int .i64 a] W fun e w' => ∃ t : ByteArray, e = .returned (.string t) ∧ t.size = 512 ∧ Hid (Below W.heap.size W w')) := Lib.hid fun a h1 h2 W => headT_any a (by omega) (by omega) W
        have HSl : Hid (∀ (t : ByteArray) W, t.size = 512 → (Instr.slice 9 (.string t) none (some (.int .i64 511)) none).run Tryd.prog W = .ok (.string (t.extract 0 511)) W) := Lib.hid fun t W ht => by
          rw [run_slice_string_to_if W 9 t .i64 511 Tryd.underlying9, if_pos (by omega)]
          rfl
        clear h7 c0 c1 c2 c3 c4 hsl0 hmin hmin2
        go_loopw [11, 12] (fun fk kk wr => ∃ (t : ByteArray) (k2 : Nat), fk = .string t ∧ kk = .int .i64 (k2 : Int) ∧ k2 ≤ 3 ∧ Hid (t.size = 1022 * k2) ∧ Hid (Below w7.heap.size w7 wr)) (fun _ k _ => 3 - (intOf k).toNat)
        case atStart => exact ⟨⟨#[]⟩, 0, rfl, rfl, by omega, Lib.hid rfl, Lib.hid (Below.refl _ _)⟩
        case round =>
          obtain ⟨t, k2, rfl, rfl, hk2, HTs, HB9⟩ := hrel
          by_cases hlt3 : k2 < 3
          · have hlt3I : (k2 : Int) < 3 := by omega
            have hw3 : IntKind.i64.wrap ((k2 : Int) + 1) = ((k2 + 1 : Nat) : Int) := by rw [IntKind.wrap_i64]; omega
            have HTm : Hid (0 ≤ (k2 : Int).tmod 2 ∧ (k2 : Int).tmod 2 ≤ 1 ∧ IntKind.i64.wrap ((k2 : Int).tmod 2) = (k2 : Int).tmod 2) := Lib.hid (by
              have h1 : (k2 : Int).tmod 2 = (k2 : Int) % 2 := Int.tmod_eq_emod_of_nonneg (by omega)
              rw [h1, IntKind.wrap_i64]; omega)
            go_wp2_with fail
            let R : World → World → Prop := fun W W2 => Below W.heap.size W W2
            let V : Nat → Value → World → Prop := fun jX v W => match jX with | 0 => v = .pointer (some ⟨l, 0, none⟩) | 1 => ∃ ag1, v = .int .i64 ag1 ∧ 0 ≤ ag1 ∧ ag1 ≤ 1000 | 2 => v = .int .i64 (k2 : Int) | 3 => ∃ m, v = .int .i64 m ∧ 0 ≤ m ∧ m ≤ 1 | 4 => ∃ ag2, v = .int .i64 ag2 ∧ 0 ≤ ag2 ∧ ag2 ≤ 1001 | 5 => v = .int .i64 (k2 : Int) | 6 => v = .slice sp q c | 7 => v = .string U | 8 => ∃ f0, v = .string f0 ∧ f0.size = 512 | 9 => ∃ f1, v = .string f1 ∧ f1.size = 512 | _ => True
            refine wp_region_fill (by kernel_rfl) V (fun W => Below w7.heap.size w7 W) R (by kernel_rfl) (by kernel_rfl) (HB9.out.trans ((Below.refl _ _).drew)) (fun W W2 hr hi => hi.trans (hr.mono hi.size)) ?_ ?_ ?_
            · intro jX v W W2 hr h
              match jX, h with
              | 0, h => exact h
              | 1, h => obtain ⟨ag1, h1, h2⟩ := h; exact ⟨ag1, h1, h2⟩
              | 2, h => exact h
              | 3, h => obtain ⟨m, h1, h2⟩ := h; exact ⟨m, h1, h2⟩
              | 4, h => obtain ⟨ag2, h1, h2⟩ := h; exact ⟨ag2, h1, h2⟩
              | 5, h => exact h
              | 6, h => exact h
              | 7, h => exact h
              | 8, h => obtain ⟨f0, h1, h2⟩ := h; exact ⟨f0, h1, h2⟩
              | 9, h => obtain ⟨f1, h1, h2⟩ := h; exact ⟨f1, h1, h2⟩
              | nX + 10, h => exact h
            · intro iX o ho a W hN hi h
              match iX, ho with
              | 0, ho =>
                obtain rfl := Option.some.inj (show some _ = some o from ho)
                have e6 : a.eval (.tmp 6) = .pointer (some ⟨l, 0, none⟩) := hN.eval 6 (by kernel_rfl)
                refine fill_value (v := .pointer (some ⟨l, 0, none⟩)) ho rfl (by rfl) (by clear h hN; have hcst : ∀ v, a.eval (.const v) = v := (fun _ => rfl); have hfun : ∀ f, a.eval (.func f) = .func (.func f) #[] #[] := (fun _ => rfl); generalize a.eval = ρ at *; go_simp) rfl (Below.refl _ _)
              | 1, ho =>
                obtain rfl := Option.some.inj (show some _ = some o from ho)
                have e58 : a.eval (.tmp 58) = .pointer (some ⟨l, 0, none⟩) := h ⟨0, .data⟩ (by simp) rfl
                refine fill_enter (f := 14) (args := #[.pointer (some ⟨l, 0, none⟩)]) ho rfl (by rfl) (by clear h hN; have hcst : ∀ v, a.eval (.const v) = v := (fun _ => rfl); have hfun : ∀ f, a.eval (.func f) = .func (.func f) #[] #[] := (fun _ => rfl); generalize a.eval = ρ at *; go_simp) (HAg.out W hi) ?_
                rintro e w2 ⟨ag, rfl, h5, h6, rfl⟩
                exact ⟨_, rfl, ⟨ag, rfl, h5, h6⟩, Below.refl _ _⟩
              | 2, ho =>
                obtain rfl := Option.some.inj (show some _ = some o from ho)
                have e12 : a.eval (.tmp 12) = .int .i64 (k2 : Int) := hN.eval 12 (by kernel_rfl)
                refine fill_value (v := .int .i64 (k2 : Int)) ho rfl (by rfl) (by clear h hN; have hcst : ∀ v, a.eval (.const v) = v := (fun _ => rfl); have hfun : ∀ f, a.eval (.func f) = .func (.func f) #[] #[] := (fun _ => rfl); generalize a.eval = ρ at *; go_simp) rfl (Below.refl _ _)
              | 3, ho =>
                obtain rfl := Option.some.inj (show some _ = some o from ho)
                have e60 : a.eval (.tmp 60) = .int .i64 (k2 : Int) := h ⟨2, .data⟩ (by simp) rfl
                have htm := HTm.out
                refine fill_value (v := .int .i64 ((k2 : Int).tmod 2)) ho rfl (by rfl) (by clear h hN; have hcst : ∀ v, a.eval (.const v) = v := (fun _ => rfl); have hfun : ∀ f, a.eval (.func f) = .func (.func f) #[] #[] := (fun _ => rfl); generalize a.eval = ρ at *; go_simp) ⟨_, rfl, by omega⟩ (Below.refl _ _)
              | 4, ho =>
                obtain rfl := Option.some.inj (show some _ = some o from ho)
                obtain ⟨ag1, e59, p59⟩ : ∃ ag1, a.eval (.tmp 59) = .int .i64 ag1 ∧ 0 ≤ ag1 ∧ ag1 ≤ 1000 := h ⟨1, .data⟩ (by simp) rfl
                obtain ⟨m, e61, p61⟩ : ∃ m, a.eval (.tmp 61) = .int .i64 m ∧ 0 ≤ m ∧ m ≤ 1 := h ⟨3, .data⟩ (by simp) rfl
                have hwa : IntKind.i64.wrap (ag1 + m) = ag1 + m := by rw [IntKind.wrap_i64]; omega
                refine fill_value (v := .int .i64 (ag1 + m)) ho rfl (by rfl) (by clear h hN; have hcst : ∀ v, a.eval (.const v) = v := (fun _ => rfl); have hfun : ∀ f, a.eval (.func f) = .func (.func f) #[] #[] := (fun _ => rfl); generalize a.eval = ρ at *; go_simp) ⟨_, rfl, by omega⟩ (Below.refl _ _)
              | 5, ho =>
                obtain rfl := Option.some.inj (show some _ = some o from ho)
                have e12 : a.eval (.tmp 12) = .int .i64 (k2 : Int) := hN.eval 12 (by kernel_rfl)
                refine fill_value (v := .int .i64 (k2 : Int)) ho rfl (by rfl) (by clear h hN; have hcst : ∀ v, a.eval (.const v) = v := (fun _ => rfl); have hfun : ∀ f, a.eval (.func f) = .func (.func f) #[] #[] := (fun _ => rfl); generalize a.eval = ρ at *; go_simp) rfl (Below.refl _ _)
              | 6, ho =>
                obtain rfl := Option.some.inj (show some _ = some o from ho)
                have e10 : a.eval (.tmp 10) = .slice sp q c := hN.eval 10 (by kernel_rfl)
                refine fill_value (v := .slice sp q c) ho rfl (by rfl) (by clear h hN; have hcst : ∀ v, a.eval (.const v) = v := (fun _ => rfl); have hfun : ∀ f, a.eval (.func f) = .func (.func f) #[] #[] := (fun _ => rfl); generalize a.eval = ρ at *; go_simp) rfl (Below.refl _ _)
              | 7, ho =>
                obtain rfl := Option.some.inj (show some _ = some o from ho)
                have e64 : a.eval (.tmp 64) = .slice sp q c := h ⟨6, .data⟩ (by simp) rfl
                have hcv := HCv.out W c (HBW.out W hi)
                refine fill_value (v := .string U) ho rfl (by rfl) (by clear h hN; have hcst : ∀ v, a.eval (.const v) = v := (fun _ => rfl); have hfun : ∀ f, a.eval (.func f) = .func (.func f) #[] #[] := (fun _ => rfl); generalize a.eval = ρ at *; go_simp) rfl (Below.refl _ _)
              | 8, ho =>
                obtain rfl := Option.some.inj (show some _ = some o from ho)
                obtain ⟨ag2, e62, p62⟩ : ∃ ag2, a.eval (.tmp 62) = .int .i64 ag2 ∧ 0 ≤ ag2 ∧ ag2 ≤ 1001 := h ⟨4, .data⟩ (by simp) rfl
                have e63 : a.eval (.tmp 63) = .int .i64 (k2 : Int) := h ⟨5, .data⟩ (by simp) rfl
                have e65 : a.eval (.tmp 65) = .string U := h ⟨7, .data⟩ (by simp) rfl
                refine fill_enter (f := 26) (args := #[.int .i64 ag2, .int .i64 (k2 : Int), .string U]) ho rfl (by rfl) (by clear h hN; have hcst : ∀ v, a.eval (.const v) = v := (fun _ => rfl); have hfun : ∀ f, a.eval (.func f) = .func (.func f) #[] #[] := (fun _ => rfl); generalize a.eval = ρ at *; go_simp) (HFi.out ag2 (k2 : Int) (by omega) (by omega) W) ?_
                rintro e w2 ⟨t5, rfl, h5, h6⟩
                exact ⟨_, rfl, ⟨t5, rfl, h5⟩, h6.out⟩
              | 9, ho =>
                obtain rfl := Option.some.inj (show some _ = some o from ho)
                obtain ⟨f0, e66, p66⟩ : ∃ f0, a.eval (.tmp 66) = .string f0 ∧ f0.size = 512 := h ⟨8, .data⟩ (by simp) rfl
                refine fill_value (v := .string f0) ho rfl (by rfl) (by clear h hN; have hcst : ∀ v, a.eval (.const v) = v := (fun _ => rfl); have hfun : ∀ f, a.eval (.func f) = .func (.func f) #[] #[] := (fun _ => rfl); generalize a.eval = ρ at *; go_simp) ⟨_, rfl, p66⟩ (Below.refl _ _)
              | nX + 10, ho => exact absurd ho (by simp)
            · intro vals W hi h
              have u0 : vals 0 = .pointer (some ⟨l, 0, none⟩) := h 0 (by decide)
              obtain ⟨ag1, u1, p1⟩ : ∃ ag1, vals 1 = .int .i64 ag1 ∧ 0 ≤ ag1 ∧ ag1 ≤ 1000 := h 1 (by decide)
              have u2 : vals 2 = .int .i64 (k2 : Int) := h 2 (by decide)
              obtain ⟨m, u3, p3⟩ : ∃ m, vals 3 = .int .i64 m ∧ 0 ≤ m ∧ m ≤ 1 := h 3 (by decide)
              obtain ⟨ag2, u4, p4⟩ : ∃ ag2, vals 4 = .int .i64 ag2 ∧ 0 ≤ ag2 ∧ ag2 ≤ 1001 := h 4 (by decide)
              have u5 : vals 5 = .int .i64 (k2 : Int) := h 5 (by decide)
              have u6 : vals 6 = .slice sp q c := h 6 (by decide)
              have u7 : vals 7 = .string U := h 7 (by decide)
              obtain ⟨f0, u8, p8⟩ : ∃ f0, vals 8 = .string f0 ∧ f0.size = 512 := h 8 (by decide)
              obtain ⟨f1, u9, p9⟩ : ∃ f1, vals 9 = .string f1 ∧ f1.size = 512 := h 9 (by decide)
              generalize hA : fill _ _ _ _ = A
              have hA2 : (Act.put (Act.put (Act.put (Act.put (Act.put (Act.put (Act.put (Act.put (Act.put (Act.put (_ : Act) (some 58) (vals 0)) (some 59) (vals 1)) (some 60) (vals 2)) (some 61) (vals 3)) (some 62) (vals 4)) (some 63) (vals 5)) (some 64) (vals 6)) (some 65) (vals 7)) (some 66) (vals 8)) (some 13) (vals 9)) = A := hA
              clear hA h V R
              rw [u0, u1, u2, u3, u4, u5, u6, u7, u8, u9] at hA2
              simp only [fill, Act.put, List.setIfInBounds_toArray, List.set_cons_succ, List.set_cons_zero] at hA2
              subst hA2
              clear u0 u1 u2 u3 u4 u5 u6 u7 u8 u9
              have HF1 := Lib.hid p9
              have HB13 := Lib.hid hi
              clear hi
              go_wp2_with fail
              let R : World → World → Prop := fun W W2 => Below W.heap.size W W2
              let V : Nat → Value → World → Prop := fun jX v W => match jX with | 0 => v = .string t | 1 => v = .string f1 | 2 => ∃ fu, v = .string fu ∧ fu.size = 511 | 3 => ∃ fa, v = .string fa ∧ fa.size = 1022 * k2 + 511 | 4 => v = .pointer (some ⟨l, 0, none⟩) | 5 => ∃ ag3, v = .int .i64 ag3 ∧ 0 ≤ ag3 ∧ ag3 ≤ 1000 | 6 => ∃ ag4, v = .int .i64 ag4 ∧ 0 ≤ ag4 ∧ ag4 ≤ 1001 | 7 => v = .int .i64 (k2 : Int) | 8 => ∃ ag5, v = .int .i64 ag5 ∧ 0 ≤ ag5 ∧ ag5 ≤ 1010 | 9 => ∃ hd2, v = .string hd2 ∧ hd2.size = 512 | 10 => ∃ hu, v = .string hu ∧ hu.size = 511 | 11 => ∃ fb, v = .string fb ∧ fb.size = 1022 * (k2 + 1) | 12 => ∃ fc, v = .string fc ∧ fc.size = 1022 * (k2 + 1) | _ => True
              refine wp_region_fill5p (by kernel_rfl) V (fun W => Below w7.heap.size w7 W) R (by kernel_rfl) (by kernel_rfl) (HB13.out.trans ((Below.refl _ _).drew)) (fun W W2 hr hi => hi.trans (hr.mono hi.size)) ?_ ?_ ?_
              · intro jX v W W2 hr h
                match jX, h with
                | 0, h => exact h
                | 1, h => exact h
                | 2, h => obtain ⟨fu, h1, h2⟩ := h; exact ⟨fu, h1, h2⟩
                | 3, h => obtain ⟨fa, h1, h2⟩ := h; exact ⟨fa, h1, h2⟩
                | 4, h => exact h
                | 5, h => obtain ⟨ag3, h1, h2⟩ := h; exact ⟨ag3, h1, h2⟩
                | 6, h => obtain ⟨ag4, h1, h2⟩ := h; exact ⟨ag4, h1, h2⟩
                | 7, h => exact h
                | 8, h => obtain ⟨ag5, h1, h2⟩ := h; exact ⟨ag5, h1, h2⟩
                | 9, h => obtain ⟨hd2, h1, h2⟩ := h; exact ⟨hd2, h1, h2⟩
                | 10, h => obtain ⟨hu, h1, h2⟩ := h; exact ⟨hu, h1, h2⟩
                | 11, h => obtain ⟨fb, h1, h2⟩ := h; exact ⟨fb, h1, h2⟩
                | 12, h => obtain ⟨fc, h1, h2⟩ := h; exact ⟨fc, h1, h2⟩
                | nX + 13, h => exact h
              · intro iX o ho a W hN hS hi h
                match iX, ho with
                | 0, ho =>
                  obtain rfl := Option.some.inj (show some _ = some o from ho)
                  have e11 : a.eval (.tmp 11) = .string t := hS 12 11 (by kernel_rfl) (by rfl)
                  refine fill_value (v := .string t) ho rfl (by rfl) (by clear h hN hS; have hcst : ∀ v, a.eval (.const v) = v := (fun _ => rfl); have hfun : ∀ f, a.eval (.func f) = .func (.func f) #[] #[] := (fun _ => rfl); generalize a.eval = ρ at *; go_simp) rfl (Below.refl _ _)
                | 1, ho =>
                  obtain rfl := Option.some.inj (show some _ = some o from ho)
                  have e13 : a.eval (.tmp 13) = .string f1 := hN.eval 13 (by kernel_rfl)
                  refine fill_value (v := .string f1) ho rfl (by rfl) (by clear h hN hS; have hcst : ∀ v, a.eval (.const v) = v := (fun _ => rfl); have hfun : ∀ f, a.eval (.func f) = .func (.func f) #[] #[] := (fun _ => rfl); generalize a.eval = ρ at *; go_simp) rfl (Below.refl _ _)
                | 2, ho =>
                  obtain rfl := Option.some.inj (show some _ = some o from ho)
                  have e68 : a.eval (.tmp 68) = .string f1 := h ⟨1, .data⟩ (by simp) rfl
                  have hsl := HSl.out f1 W HF1.out
                  refine fill_value (v := .string (f1.extract 0 511)) ho rfl (by rfl) (by clear h hN hS; have hcst : ∀ v, a.eval (.const v) = v := (fun _ => rfl); have hfun : ∀ f, a.eval (.func f) = .func (.func f) #[] #[] := (fun _ => rfl); generalize a.eval = ρ at *; go_simp) ⟨_, rfl, by rw [ByteArray.size_extract]; omega⟩ (Below.refl _ _)
                | 3, ho =>
                  obtain rfl := Option.some.inj (show some _ = some o from ho)
                  have e67 : a.eval (.tmp 67) = .string t := h ⟨0, .data⟩ (by simp) rfl
                  obtain ⟨fu, e69, p69⟩ : ∃ fu, a.eval (.tmp 69) = .string fu ∧ fu.size = 511 := h ⟨2, .data⟩ (by simp) rfl
                  have hadd := run_string_add_sum (P := Tryd.prog) W t fu (by have := HTs.out; omega)
                  refine fill_value (v := .string (t ++ fu)) ho rfl (by rfl) (by clear h hN hS; have hcst : ∀ v, a.eval (.const v) = v := (fun _ => rfl); have hfun : ∀ f, a.eval (.func f) = .func (.func f) #[] #[] := (fun _ => rfl); generalize a.eval = ρ at *; go_simp) ⟨_, rfl, by rw [ByteArray.size_append, HTs.out, p69]⟩ (Below.refl _ _)
                | 4, ho =>
                  obtain rfl := Option.some.inj (show some _ = some o from ho)
                  have e6 : a.eval (.tmp 6) = .pointer (some ⟨l, 0, none⟩) := hN.eval 6 (by kernel_rfl)
                  refine fill_value (v := .pointer (some ⟨l, 0, none⟩)) ho rfl (by rfl) (by clear h hN hS; have hcst : ∀ v, a.eval (.const v) = v := (fun _ => rfl); have hfun : ∀ f, a.eval (.func f) = .func (.func f) #[] #[] := (fun _ => rfl); generalize a.eval = ρ at *; go_simp) rfl (Below.refl _ _)
                | 5, ho =>
                  obtain rfl := Option.some.inj (show some _ = some o from ho)
                  have e71 : a.eval (.tmp 71) = .pointer (some ⟨l, 0, none⟩) := h ⟨4, .data⟩ (by simp) rfl
                  refine fill_enter (f := 14) (args := #[.pointer (some ⟨l, 0, none⟩)]) ho rfl (by rfl) (by clear h hN hS; have hcst : ∀ v, a.eval (.const v) = v := (fun _ => rfl); have hfun : ∀ f, a.eval (.func f) = .func (.func f) #[] #[] := (fun _ => rfl); generalize a.eval = ρ at *; go_simp) (HAg.out W hi) ?_
                  rintro e w2 ⟨ag, rfl, h5, h6, rfl⟩
                  exact ⟨_, rfl, ⟨ag, rfl, h5, h6⟩, Below.refl _ _⟩
                | 6, ho =>
                  obtain rfl := Option.some.inj (show some _ = some o from ho)
                  obtain ⟨ag3, e72, p72⟩ : ∃ ag3, a.eval (.tmp 72) = .int .i64 ag3 ∧ 0 ≤ ag3 ∧ ag3 ≤ 1000 := h ⟨5, .data⟩ (by simp) rfl
                  have hwa : IntKind.i64.wrap (ag3 + 1) = ag3 + 1 := by rw [IntKind.wrap_i64]; omega
                  refine fill_value (v := .int .i64 (ag3 + 1)) ho rfl (by rfl) (by clear h hN hS; have hcst : ∀ v, a.eval (.const v) = v := (fun _ => rfl); have hfun : ∀ f, a.eval (.func f) = .func (.func f) #[] #[] := (fun _ => rfl); generalize a.eval = ρ at *; go_simp) ⟨_, rfl, by omega⟩ (Below.refl _ _)
                | 7, ho =>
                  obtain rfl := Option.some.inj (show some _ = some o from ho)
                  have e12 : a.eval (.tmp 12) = .int .i64 (k2 : Int) := hN.eval 12 (by kernel_rfl)
                  refine fill_value (v := .int .i64 (k2 : Int)) ho rfl (by rfl) (by clear h hN hS; have hcst : ∀ v, a.eval (.const v) = v := (fun _ => rfl); have hfun : ∀ f, a.eval (.func f) = .func (.func f) #[] #[] := (fun _ => rfl); generalize a.eval = ρ at *; go_simp) rfl (Below.refl _ _)
                | 8, ho =>
                  obtain rfl := Option.some.inj (show some _ = some o from ho)
                  obtain ⟨ag4, e73, p73⟩ : ∃ ag4, a.eval (.tmp 73) = .int .i64 ag4 ∧ 0 ≤ ag4 ∧ ag4 ≤ 1001 := h ⟨6, .data⟩ (by simp) rfl
                  have e74 : a.eval (.tmp 74) = .int .i64 (k2 : Int) := h ⟨7, .data⟩ (by simp) rfl
                  have hwa : IntKind.i64.wrap (ag4 + (k2 : Int)) = ag4 + (k2 : Int) := by rw [IntKind.wrap_i64]; omega
                  refine fill_value (v := .int .i64 (ag4 + (k2 : Int))) ho rfl (by rfl) (by clear h hN hS; have hcst : ∀ v, a.eval (.const v) = v := (fun _ => rfl); have hfun : ∀ f, a.eval (.func f) = .func (.func f) #[] #[] := (fun _ => rfl); generalize a.eval = ρ at *; go_simp) ⟨_, rfl, by omega⟩ (Below.refl _ _)
                | 9, ho =>
                  obtain rfl := Option.some.inj (show some _ = some o from ho)
                  obtain ⟨ag5, e75, p75⟩ : ∃ ag5, a.eval (.tmp 75) = .int .i64 ag5 ∧ 0 ≤ ag5 ∧ ag5 ≤ 1010 := h ⟨8, .data⟩ (by simp) rfl
                  refine fill_enter (f := 25) (args := #[.int .i64 ag5]) ho rfl (by rfl) (by clear h hN hS; have hcst : ∀ v, a.eval (.const v) = v := (fun _ => rfl); have hfun : ∀ f, a.eval (.func f) = .func (.func f) #[] #[] := (fun _ => rfl); generalize a.eval = ρ at *; go_simp) (HHd.out ag5 (by omega) (by omega) W) ?_
                  rintro e w2 ⟨t5, rfl, h5, h6⟩
                  exact ⟨_, rfl, ⟨t5, rfl, h5⟩, h6.out⟩
                | 10, ho =>
                  obtain rfl := Option.some.inj (show some _ = some o from ho)
                  obtain ⟨hd2, e76, p76⟩ : ∃ hd2, a.eval (.tmp 76) = .string hd2 ∧ hd2.size = 512 := h ⟨9, .data⟩ (by simp) rfl
                  have hsl := HSl.out hd2 W p76
                  refine fill_value (v := .string (hd2.extract 0 511)) ho rfl (by rfl) (by clear h hN hS; have hcst : ∀ v, a.eval (.const v) = v := (fun _ => rfl); have hfun : ∀ f, a.eval (.func f) = .func (.func f) #[] #[] := (fun _ => rfl); generalize a.eval = ρ at *; go_simp) ⟨_, rfl, by rw [ByteArray.size_extract]; omega⟩ (Below.refl _ _)
                | 11, ho =>
                  obtain rfl := Option.some.inj (show some _ = some o from ho)
                  obtain ⟨fa, e70, p70⟩ : ∃ fa, a.eval (.tmp 70) = .string fa ∧ fa.size = 1022 * k2 + 511 := h ⟨3, .data⟩ (by simp) rfl
                  obtain ⟨hu, e77, p77⟩ : ∃ hu, a.eval (.tmp 77) = .string hu ∧ hu.size = 511 := h ⟨10, .data⟩ (by simp) rfl
                  have hadd := run_string_add_sum (P := Tryd.prog) W fa hu (by omega)
                  refine fill_value (v := .string (fa ++ hu)) ho rfl (by rfl) (by clear h hN hS; have hcst : ∀ v, a.eval (.const v) = v := (fun _ => rfl); have hfun : ∀ f, a.eval (.func f) = .func (.func f) #[] #[] := (fun _ => rfl); generalize a.eval = ρ at *; go_simp) ⟨_, rfl, by rw [ByteArray.size_append, p70, p77]; omega⟩ (Below.refl _ _)
                | 12, ho =>
                  obtain rfl := Option.some.inj (show some _ = some o from ho)
                  obtain ⟨fb, e78, p78⟩ : ∃ fb, a.eval (.tmp 78) = .string fb ∧ fb.size = 1022 * (k2 + 1) := h ⟨11, .data⟩ (by simp) rfl
                  refine fill_value (v := .string fb) ho rfl (by rfl) (by clear h hN hS; have hcst : ∀ v, a.eval (.const v) = v := (fun _ => rfl); have hfun : ∀ f, a.eval (.func f) = .func (.func f) #[] #[] := (fun _ => rfl); generalize a.eval = ρ at *; go_simp) ⟨_, rfl, p78⟩ (Below.refl _ _)
                | nX + 13, ho => exact absurd ho (by simp)
              · intro vals W hi h
                have u0 : vals 0 = .string t := h 0 (by decide)
                have u1 : vals 1 = .string f1 := h 1 (by decide)
                obtain ⟨fu, u2, p2⟩ : ∃ fu, vals 2 = .string fu ∧ fu.size = 511 := h 2 (by decide)
                obtain ⟨fa, u3, p3⟩ : ∃ fa, vals 3 = .string fa ∧ fa.size = 1022 * k2 + 511 := h 3 (by decide)
                have u4 : vals 4 = .pointer (some ⟨l, 0, none⟩) := h 4 (by decide)
                obtain ⟨ag3, u5, p5⟩ : ∃ ag3, vals 5 = .int .i64 ag3 ∧ 0 ≤ ag3 ∧ ag3 ≤ 1000 := h 5 (by decide)
                obtain ⟨ag4, u6, p6⟩ : ∃ ag4, vals 6 = .int .i64 ag4 ∧ 0 ≤ ag4 ∧ ag4 ≤ 1001 := h 6 (by decide)
                have u7 : vals 7 = .int .i64 (k2 : Int) := h 7 (by decide)
                obtain ⟨ag5, u8, p8⟩ : ∃ ag5, vals 8 = .int .i64 ag5 ∧ 0 ≤ ag5 ∧ ag5 ≤ 1010 := h 8 (by decide)
                obtain ⟨hd2, u9, p9⟩ : ∃ hd2, vals 9 = .string hd2 ∧ hd2.size = 512 := h 9 (by decide)
                obtain ⟨hu, u10, p10⟩ : ∃ hu, vals 10 = .string hu ∧ hu.size = 511 := h 10 (by decide)
                obtain ⟨fb, u11, p11⟩ : ∃ fb, vals 11 = .string fb ∧ fb.size = 1022 * (k2 + 1) := h 11 (by decide)
                obtain ⟨fc, u12, p12⟩ : ∃ fc, vals 12 = .string fc ∧ fc.size = 1022 * (k2 + 1) := h 12 (by decide)
                generalize hA : fill _ _ _ _ = A
                have hA2 : (Act.put (Act.put (Act.put (Act.put (Act.put (Act.put (Act.put (Act.put (Act.put (Act.put (Act.put (Act.put (Act.put (_ : Act) (some 67) (vals 0)) (some 68) (vals 1)) (some 69) (vals 2)) (some 70) (vals 3)) (some 71) (vals 4)) (some 72) (vals 5)) (some 73) (vals 6)) (some 74) (vals 7)) (some 75) (vals 8)) (some 76) (vals 9)) (some 77) (vals 10)) (some 78) (vals 11)) (some 11) (vals 12)) = A := hA
                clear hA h V R
                rw [u0, u1, u2, u3, u4, u5, u6, u7, u8, u9, u10, u11, u12] at hA2
                simp only [fill, Act.put, List.setIfInBounds_toArray, List.set_cons_succ, List.set_cons_zero] at hA2
                subst hA2
                clear u0 u1 u2 u3 u4 u5 u6 u7 u8 u9 u10 u11 u12
                have HTs2 := Lib.hid p12
                have HB14 := Lib.hid hi
                clear HTs HF1 hi
                go_wp2_with fail
                go_roundw
                case rel => exact ⟨fc, k2 + 1, rfl, by go_num, by omega, HTs2, HB14⟩
                case measure => simp [intOf]; omega
          · obtain rfl : k2 = 3 := by omega
            have hlt3I : ¬ (((3 : Nat) : Int) < 3) := by omega
            have hts : t.size = 3066 := HTs.out
            have kc := fun W => Lib.run_convert_string_bytes (P := Tryd.prog) W 9 34 5 t Tryd.underlying9 Tryd.underlying34 Tryd.underlying5
            rw [hts] at kc
            have HAp : Hid (∀ W c', Below w7.heap.size w7 W → 3066 ≤ c' → Calls Tryd.prog 12 #[.pointer (some ⟨l, 0, none⟩), .slice (some ⟨W.heap.size, 0, none⟩) 3066 c'] (Lib.bytesWorld W 5 t) fun e w' => ∃ ev, e = .returned (.int .i64 ev) ∧ (ev = 0 ∨ ev = 7) ∧ Hid (St AllLike w.heap.size w' g l (1 + j) (20 + 100 * j + 20)) ∧ Hid (Below w.heap.size w w') ∧ Hid (∃ fr, w'.heap[wo.heap.size]? = some (.cells #[.int .i64 v0, .int .i64 v1, .int .i64 v2, .int .i64 v3, .slice sp n c] 52 fr))) := Lib.hid fun W c' hW hc => by
              obtain ⟨_, _, h3⟩ := Fk.read_world W 5 t
              have h4 := hW.trans (h3.mono hW.size)
              obtain ⟨fr, hX⟩ := HX.out
              have hX2 : (Lib.bytesWorld W 5 t).heap[wo.heap.size]? = some (.cells #[.int .i64 v0, .int .i64 v1, .int .i64 v2, .int .i64 v3, .slice sp n c] 52 fr) := by
                rw [h4.block _ (Array.getElem?_eq_some_iff.1 hX).1]; exact hX
              have hS := HSt.out _ h4
              refine (st_append hS (by omega) (Fw.bytesOf t) c' _ (by rw [Fw.bytesOf_len, HTs.out]) hc (fun x hx => ?_) (row_text _ W t)).mono ?_
              · obtain ⟨b9, _, rfl⟩ := List.mem_map.1 hx
                exact b9.toNat_lt
              · rintro e w' ⟨ev, rfl, h5, h6, h7, h8⟩
                exact ⟨ev, rfl, h5, h6, Lib.hid ((HBW.out _ h4).trans h7.out), Lib.hid ⟨fr, st_spot hS hX2 h8.out⟩⟩
            clear HTs
            go_wp2_with fail
            refine (HAp.out wr _ HB9.out (grownCap_ge _ _ _ _)).mono ?_
            rintro e w8 ⟨ev, rfl, hev, HS8, HB8, HX8⟩
            clear HAp HX HB7 HBW HSt HAg HFi HHd HSl HB9
            rcases hev with rfl | rfl
            · obtain ⟨fr, hX⟩ := HX8.out
              have x0 : w8.cell? ⟨wo.heap.size, 0, none⟩ = some (.int .i64 v0) := by simp [World.cell?, hX]
              have x3 : w8.cell? ⟨wo.heap.size, 3, none⟩ = some (.int .i64 v3) := by simp [World.cell?, hX]
              clear hX HX8
              obtain ⟨kk, hk1, hk2⟩ := Fw.mod_cut1 v3 5 (by decide) (by decide)
              have hk3 : wrap64 ((IntKind.u64.wrap v3).tmod 5) = (kk : Int) := hk1
              have HAr := Lib.hid (st_arm HS8.out kk (by omega))
              have HSz : Hid (St AllLike w.heap.size w8 g l (1 + (j + 1)) (20 + 100 * (j + 1))) := Lib.hid (st_mono HS8.out (by omega) (by omega))
              clear hk1 hk2 HS8
              go_wp2_with fail
              · refine HAr.out.mono ?_
                rintro e w9 ⟨rfl, HA9, HB9⟩
                have HLa : Hid (∀ fr, Calls Tryd.prog 12 #[.pointer (some ⟨l, 0, none⟩), .slice (some ⟨w9.heap.size, 0, none⟩) 4 4] (w9.alloc (.cells #[.int .u8 110, .int .u8 101, .int .u8 120, .int .u8 116] 5 fr)) fun e w' => ∃ ev, e = .returned (.int .i64 ev) ∧ Hid (Dn AllLike w.heap.size w' g (1 + j) (20 + 100 * j + 60)) ∧ Hid (Below w.heap.size w w')) := Lib.hid fun fr => by
                  have h3 := HB8.out.trans HB9.out
                  have h4 : Below w9.heap.size w9 (w9.alloc (.cells #[.int .u8 110, .int .u8 101, .int .u8 120, .int .u8 116] 5 fr)) := (Below.refl _ _).alloc (Nat.le_refl _) _
                  have hA : Ar AllLike w.heap.size (w9.alloc (.cells #[.int .u8 110, .int .u8 101, .int .u8 120, .int .u8 116] 5 fr)) g l (1 + j) (20 + 100 * j + 40) := by
                    obtain ⟨s, ag, hd, bs, p, k, a1, a2, a3, a4⟩ := HA9.out
                    exact ⟨s, ag, hd, bs, p, k, a1.below h4, a2, a3, by omega⟩
                  refine (st_last hA (by omega) [110, 101, 120, 116] 4 4 _ rfl (by decide) (by decide) (by decide) (.inl rfl) (row_next _ _ _)).mono ?_
                  rintro e w' ⟨ev, rfl, h5, h6⟩
                  exact ⟨ev, rfl, h5, Lib.hid ((h3.trans (h4.mono h3.size)).trans h6.out)⟩
                have kc2 := fun (w : World) (C : Array Value) (n c : Nat) => Lib.run_convert_bytes_const (P := Tryd.prog) w 34 5 C n c Tryd.underlying34 Tryd.underlying5
                clear HAr HA9 HB9 HSz x0 x3
                go_wp2_with fail
                refine (HLa.out _).mono ?_
                rintro e w10 ⟨ev, rfl, HD10, HB10⟩
                have HCr : Hid (Calls Tryd.prog 30 #[.pointer (some ⟨g, 0, none⟩), .slice a1 len1 cap1] w10 fun e w' => e = .returned (.tuple #[]) ∧ Hid (Up AllLike w.heap.size w' g (1 + j) (20 + 100 * j + 60)) ∧ Hid (Below w.heap.size w w')) := Lib.hid (by
                  refine (dn_crash HD10.out (by omega) HGh.out a1 len1 cap1 pk (fun W' hW => HPk.out W' (HB10.out.trans hW))).mono ?_
                  rintro e w' ⟨rfl, h5, h6⟩
                  exact ⟨rfl, h5, Lib.hid (HB10.out.trans h6.out)⟩)
                clear HLa HD10
                go_wp2_with fail
                refine HCr.out.mono ?_
                rintro e w11 ⟨rfl, HU11, HB11⟩
                have HOp := Lib.hid (up_open HU11.out HGh.out)
                clear HCr HB10 HU11
                go_wp2_with fail
                refine HOp.out.mono ?_
                rintro e w12 ⟨l', ra, rn, rc, rfl, hrn, HBk, HS12, HB12⟩
                have HSz : Hid (∀ W, Below w12.heap.size w12 W → St AllLike w.heap.size W g l' (1 + (j + 1)) (20 + 100 * (j + 1))) := Lib.hid fun W hW => st_mono (st_below HS12.out hW) (by omega) (by omega)
                have HBz : Hid (∀ W, Below w12.heap.size w12 W → Below w.heap.size w W) := Lib.hid fun W hW => (HB11.out.trans (HB12.out.mono HB11.out.size)).trans (hW.mono (Nat.le_trans HB11.out.size HB12.out.size))
                clear HOp HS12 HB11 HB12 HB8
                go_wp2_with fail
                obtain ⟨wi, rfl⟩ : ∃ wi : World, wi = wr := ⟨_, rfl⟩
                go_loopw [21] (fun kk wr => ∃ k3 : Nat, kk = .int .i64 (k3 : Int) ∧ k3 ≤ rn ∧ Hid (Below w12.heap.size w12 wr)) (fun k _ => rn - (intOf k).toNat)
                case atStart => exact ⟨0, rfl, by omega, Lib.hid (Below.refl _ _)⟩
                case round =>
                  obtain ⟨k3, rfl, hk3, HBr⟩ := hrel
                  by_cases hlt9 : k3 < rn
                  · have hlt9I : (k3 : Int) < (rn : Int) := by omega
                    have hw9 : IntKind.i64.wrap ((k3 : Int) + 1) = ((k3 + 1 : Nat) : Int) := by rw [IntKind.wrap_i64]; omega
                    obtain ⟨gR, gr, cr, bb, rfl, hc1, hc2, hlk⟩ := HBk.out k3 hlt9
                    have hcc : wr.cell? ⟨gR, k3, none⟩ = some (.slice (some ⟨gr, 0, none⟩) bb.length cr) := (HBr.out.cell (World.block_lt_of_cell? _ _ hc1)).trans hc1
                    have hcv : (convert 34 9 (.slice (some ⟨gr, 0, none⟩) bb.length cr)).run Tryd.prog wr = .ok (.string (Fc.sv bb)) wr := Fc.src_conv0 (Fc.src_later hc2 HBr.out) cr (fun e => by cases e)
                    rcases hlk with rfl | hlk
                    · have hnx : Fc.sv [110, 101, 120, 116] = ⟨#[110, 101, 120, 116]⟩ := by decide +kernel
                      rw [hnx] at hcv
                      have h4 : ([110, 101, 120, 116] : List Nat).length = 4 := rfl
                      rw [h4] at hcv hcc
                      clear hc1 hc2
                      go_wp2_with fail
                      go_roundw
                      case rel => exact ⟨k3 + 1, by go_num, by omega, HBr⟩
                      case measure => simp [intOf]; omega
                    · obtain ⟨u, hu⟩ : ∃ u, Fc.sv bb = u := ⟨_, rfl⟩
                      have hus : u.size = 3066 := by rw [← hu, sv_size', hlk]
                      rw [hu, hlk] at hcv
                      rw [hlk] at hcc
                      have hne : ¬ (u = ⟨#[110, 101, 120, 116]⟩) := fun e => by
                        rw [e] at hus
                        exact absurd hus (by decide)
                      clear hc1 hc2 hus hu
                      go_wp2_with fail
                      all_goals
                        go_roundw
                        case rel => exact ⟨k3 + 1, by go_num, by omega, HBr⟩
                        case measure => simp [intOf]; omega
                  · obtain rfl : k3 = rn := by omega
                    have hlt9I : ¬ ((k3 : Int) < (k3 : Int)) := by omega
                    have HSe := Lib.hid (HSz.out _ HBr.out)
                    have HBe := Lib.hid (HBz.out _ HBr.out)
                    go_wp2_with fail
                    go_roundw
                    case rel => exact ⟨j + 1, l', rfl, by go_num, by omega, HSe, HBe⟩
                    case measure => simp [intOf]; omega
              · go_roundw
                case rel => exact ⟨j + 1, l, rfl, by go_num, by omega, HSz, HB8⟩
                case measure => simp [intOf]; omega
            · clear HX8
              have HTr := Lib.hid (st_trunc HS8.out (by omega) (by omega))
              go_wp2_with fail
              refine HTr.out.mono ?_
              rintro e w9 ⟨rfl, HS9, HB9⟩
              have HOp := Lib.hid (st_open0 HS9.out)
              go_wp2_with fail
              refine HOp.out.mono ?_
              rintro e w10 ⟨l9, rfl, HB10⟩
              have HSz : Hid (St AllLike w.heap.size w10 g l (1 + (j + 1)) (20 + 100 * (j + 1))) := Lib.hid (st_mono (st_like (st_below HS9.out HB10.out)) (by omega) (by omega))
              have HBz : Hid (Below w.heap.size w w10) := Lib.hid ((HB8.out.trans HB9.out).trans (HB10.out.mono (HB8.out.trans HB9.out).size))
              clear HTr HOp HS9 HS8
              go_wp2_with fail
              go_roundw
              case rel => exact ⟨j + 1, l, rfl, by go_num, by omega, HSz, HBz⟩
              case measure => simp [intOf]; omega
      · obtain rfl : j = 12 := by omega
        have hltI : ((12 : Nat) : Int) < (len0 : Int) := by omega
        go_wp2_with fail
        go_ret
        exact ⟨rfl, hbl.out⟩
    · have hltI : ¬ ((j : Int) < (len0 : Int)) := by omega
      go_wp2_with fail
      go_ret
      exact ⟨rfl, hbl.out⟩
end Go.Proofs.YtblaogcobhcpaaaDoor
