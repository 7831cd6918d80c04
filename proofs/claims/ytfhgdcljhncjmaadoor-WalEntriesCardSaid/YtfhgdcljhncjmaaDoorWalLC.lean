/- WalCrashes. -/
import Derived.Test.YtfhgdcljhncjmaaDoorWalZI
import Derived.Test.YtfhgdcljhncjmaaDoorReg5
namespace Go.Proofs.YtfhgdcljhncjmaaDoor
open Go.ChangeShapes Go.WideShapes Go.ChangeAt Go.RowKit
set_option linter.unusedVariables false
set_option maxRecDepth 20000

theorem notTEn : ¬ DiskT 36 := by unfold DiskT; decide
theorem notTEl : 36 ≠ 71 := by decide
theorem sv_inj_append (bs : List (List Nat)) (b : List Nat) : (bs ++ [b]).map Fc.sv = bs.map Fc.sv ++ [Fc.sv b] := by simp
set_option maxHeartbeats 16000000 in
theorem crashes_mid (a0 : Option Addr) (len0 cap0 : Nat) (z0 : List EntS) (n0 : Int) (b0 : Option Addr) (m0 e0 : Nat) (pk : Nat → Int) (w : World) (hG : 0 < w.heap.size) (ht : Hid (Fc.Tab w)) (hrow : IsRS 3 1 w a0 len0 cap0 z0) (hpk : ∀ i, i < m0 → ∃ g' o, b0 = some ⟨g', o, none⟩ ∧ w.cell? ⟨g', o + i, none⟩ = some (.int .i64 (pk i))) :
    Calls Tryd.prog 5 #[.agg #[.slice a0 len0 cap0, .int .i64 n0, .slice b0 m0 e0]] w fun e w' => e = .returned (.bool true) ∧ Below w.heap.size w w' := by
  have HFr : Hid (∀ W, Below w.heap.size w W → Calls Tryd.prog 16 #[] W fun e w' => ∃ g l, e = .returned (.tuple #[.pointer (some ⟨g, 0, none⟩), .pointer (some ⟨l, 0, none⟩), .bool true]) ∧ Hid (∃ s, Lg W.heap.size w' g l 18 s 2 16 1 0 [] 4 20 ∧ Quiet s) ∧ Hid (Below W.heap.size W w')) := Lib.hid fun W hW => fresh_any W (Nat.lt_of_lt_of_le hG hW.size) (Lib.hid (Fc.tab_later ht.out hW))
  have HLog : Hid (∀ W, Below w.heap.size w W → Calls Tryd.prog 10 #[] W fun e w' => e = .returned (.bool true) ∧ Hid (Below W.heap.size W w')) := Lib.hid fun W hW => logs_any W (Nat.lt_of_lt_of_le hG hW.size) (Lib.hid (Fc.tab_later ht.out hW))
  have HGh := Lib.hid hG
  have HRow := Lib.hid hrow
  have HPk : Hid (∀ W', Below w.heap.size w W' → ∀ i, i < m0 → ∃ g' o, b0 = some ⟨g', o, none⟩ ∧ W'.cell? ⟨g', o + i, none⟩ = some (.int .i64 (pk i))) := Lib.hid fun W' hW i hi => by
    obtain ⟨g', o, e, hc⟩ := hpk i hi
    exact ⟨g', o, e, (hW.cell (World.block_lt_of_cell? w _ hc)).trans hc⟩
  have hle := rs_le hrow
  clear hG hrow hpk ht
  go_enter Tryd.func5, Tryd.ntmps5
  go_wp2_with fail
  generalize h0 : World.alloc w _ = w0
  have HNb : Hid (∃ fr, w0.heap[w.heap.size]? = some (.cells #[.slice a0 len0 cap0, .int .i64 n0, .slice b0 m0 e0] 60 fr)) := Lib.hid (by
    apply Exists.intro
    rw [← h0]; exact al_new _ _ _ rfl)
  have HB0 : Hid (Below w.heap.size w w0) := Lib.hid (by rw [← h0]; exact (Below.refl _ _).alloc (Nat.le_refl _) _)
  have HNc : Hid (∀ W, Below w0.heap.size w0 W → W.cell? ⟨w.heap.size, 0, none⟩ = some (.slice a0 len0 cap0) ∧ W.cell? ⟨w.heap.size, 1, none⟩ = some (.int .i64 n0) ∧ W.cell? ⟨w.heap.size, 2, none⟩ = some (.slice b0 m0 e0)) := Lib.hid fun W hW => by
    obtain ⟨fr, hX⟩ := HNb.out
    have hX2 : W.heap[w.heap.size]? = _ := (hW.block _ (Array.getElem?_eq_some_iff.1 hX).1).trans hX
    exact ⟨by simp [World.cell?, hX2], by simp [World.cell?, hX2], by simp [World.cell?, hX2]⟩
  clear h0 HNb
  refine (HFr.out w0 HB0.out).mono ?_
  rintro e w1 ⟨g, l0, rfl, hL1, hb1⟩
  have HLg := Lib.hid (HLog.out w1 (HB0.out.trans (hb1.out.mono HB0.out.size)))
  go_wp2_with fail
  refine HLg.out.mono ?_
  rintro e w2 ⟨rfl, hb2⟩
  have HS2 : Hid (St (· = []) w0.heap.size w2 g l0 1 20) := Lib.hid (by
    obtain ⟨s, h1, h2⟩ := hL1.out
    exact ⟨s, 1, 0, [], 4, 20, h1.below hb2.out, h2, rfl, by decide, by decide⟩)
  have HB2 := Lib.hid (hb1.out.trans (hb2.out.mono hb1.out.size))
  clear hL1 hb1 hb2 HFr HLog HLg
  obtain ⟨kk, hk1, hk2⟩ := Fw.mod_cut1 n0 40 (by decide) (by decide)
  have hk3 : wrap64 ((IntKind.u64.wrap n0).tmod 40) = (kk : Int) := hk1
  have x1 := (HNc.out w2 HB2.out).2.1
  have HAr := Lib.hid (st_arms HS2.out kk (by omega))
  clear hk1 HS2
  go_wp2_with fail
  refine HAr.out.mono ?_
  rintro e w3 ⟨rfl, HA3, HB3, _⟩
  have HB3' : Hid (Below w0.heap.size w0 w3) := Lib.hid (HB2.out.trans HB3.out)
  clear HAr HB2 HB3 x1 hk2 hk3
  go_wp2_with fail
  go_loopw [4, 6, 7] (fun lv hx i wr => ∃ (j l : Nat) (hv : Value) (bs : List (List Nat)), lv = .pointer (some ⟨l, 0, none⟩) ∧ hv = hx ∧ i = .int .i64 (j : Int) ∧ j ≤ 24 ∧ bs.length ≤ j ∧ Hid (Ar (· = bs) w0.heap.size wr g l (1 + j) (20 + 100 * j)) ∧ Hid (Got wr g w0.heap.size hv (bs.map Fc.sv)) ∧ Hid (Below w0.heap.size w0 wr)) (fun _ _ i _ => 24 - (intOf i).toNat)
  case atStart => exact ⟨0, l0, _, [], rfl, rfl, rfl, by omega, by simp, HA3, Lib.hid (got_nil _ _ _), HB3'⟩
  case round =>
    obtain ⟨j, l, hv, bs, rfl, rfl, rfl, hj, hbl, hst, hgt, hbw⟩ := hrel
    obtain ⟨wo, rfl⟩ : ∃ wo : World, wo = wr := ⟨_, rfl⟩
    obtain ⟨x0, x1, x2⟩ := HNc.out wo hbw.out
    by_cases hlt : j < len0
    · by_cases hlt5 : j < 24
      · have hltI : (j : Int) < (len0 : Int) := by omega
        have hlt5I : (j : Int) < 24 := by omega
        obtain ⟨ga, oa, sp, n, c, zz, rfl, hcell, hcame, hf⟩ := ent_at (by decide) (by decide) HRow.out j hlt
        obtain ⟨v0, f0, _, _⟩ := hf 0 (by decide) (by decide)
        obtain ⟨v2, f2, _, _⟩ := hf 2 (by decide) (by decide)
        obtain ⟨q, hq, hqn, hmin, hmin2⟩ : ∃ q : Nat, q ≤ 1500 ∧ q ≤ n ∧ min (n : Int) 1500 = (q : Int) ∧ (if (1500 : Int) < (n : Int) then 1500 else (n : Int)) = (q : Int) := ⟨min n 1500, by omega, by omega, by omega, by split <;> omega⟩
        obtain ⟨b, hbn, hb256, hbrow⟩ := row_came hcame q hqn
        obtain ⟨tx, hU⟩ : ∃ tx, Fc.sv b = tx := ⟨_, rfl⟩
        have HCv : Hid (∀ W c', Below w.heap.size w W → (convert 34 9 (.slice sp q c')).run Tryd.prog W = .ok (.string tx) W) := Lib.hid fun W c' hW => by
          have h1 := Fc.src_conv0 (Fc.src_later hbrow.src hW) c' (fun e => by
            rw [hbn]
            rcases Fc.came_addr hcame with ⟨_, h2, _⟩ | ⟨x, h2⟩
            · omega
            · rw [e] at h2; cases h2)
          rw [hU, hbn] at h1
          exact h1
        have HBr : Hid (∀ W, Below w0.heap.size w0 W → Row8 w0.heap.size W sp b) := Lib.hid fun W hW => row8_in (wo := w) (w0 := w0) hbrow HB0.out.size (HB0.out.trans (hW.mono HB0.out.size))
        have hcl := Fc.came_le hcame
        have hca := Fc.came_addr hcame
        have hlive : ∀ {a v}, w.cell? a = some v → wo.cell? a = some v := fun h => ((HB0.out.trans (hbw.out.mono HB0.out.size)).cell (World.block_lt_of_cell? w _ h)).trans h
        have c0 : wo.cell? ⟨ga, oa + j * 3, none⟩ = some (.int .i64 v0) := hlive f0
        have c2 := hlive f2
        have c4 := hlive hcell
        have hq0 : (q : Int) ≤ (n : Int) := by omega
        have hq1 : (q : Int) ≤ (c : Int) := by omega
        have hqc : q ≤ c := by omega
        have HU := Lib.hid hU
        have Hb := Lib.hid (And.intro hbn hb256)
        clear hcell hcame hbn hb256 hbrow hU hcl f0 f2 hf hlive
        have hsl0 : ∀ W, (Instr.slice 34 (.slice sp n c) none (some (.int .i64 (q : Int))) none).run Tryd.prog W = .ok (.slice sp q c) W := fun W => by
          cases sp with
          | none =>
            obtain ⟨rfl, rfl⟩ : n = 0 ∧ c = 0 := by
              rcases hca with ⟨_, h1, h2⟩ | ⟨x, h1⟩
              · exact ⟨h1, h2⟩
              · cases h1
            obtain rfl : q = 0 := by omega
            go_simp
          | some y => go_simp
        clear hca
        go_wp2_with fail
        generalize h9 : World.alloc wo _ = w9
        have HX : Hid (∃ fr, w9.heap[wo.heap.size]? = some (.cells #[.int .i64 v0, .slice sp n c, .int .i64 v2] 36 fr)) := Lib.hid (by
          apply Exists.intro
          rw [← h9]; exact al_new _ _ _ rfl)
        have HB9 : Hid (Below wo.heap.size wo w9) := Lib.hid (by rw [← h9]; exact (Below.refl _ _).alloc (Nat.le_refl _) _)
        obtain ⟨ss, hss⟩ : ∃ ss, bs.map Fc.sv = ss := ⟨_, rfl⟩
        have hsl : ss.length ≤ j := by rw [← hss, List.length_map]; exact hbl
        have HBw9 : Hid (Below w0.heap.size w0 w9) := Lib.hid (hbw.out.trans (HB9.out.mono hbw.out.size))
        have HGW : Hid (∀ W, Below w9.heap.size w9 W → Got W g w0.heap.size hv ss) := Lib.hid fun W hW => by
          rw [← hss]; exact got_below (got_below hgt.out HB9.out) hW
        have HS9 : Hid (Ar (· = bs) w0.heap.size w9 g l (1 + j) (20 + 100 * j)) := Lib.hid (ar_below hst.out HB9.out)
        have HBW : Hid (∀ W, Below w9.heap.size w9 W → Below w.heap.size w W) := Lib.hid fun W hW => HB0.out.trans ((HBw9.out.trans (hW.mono HBw9.out.size)).mono HB0.out.size)
        obtain ⟨NN, hN1, hN2, hN3⟩ : ∃ NN, 1 ≤ NN ∧ ss.length ≤ NN ∧ (ss.length = 0 ∨ NN ≤ ss.length) := ⟨max ss.length 1, by omega, by omega, by omega⟩
        clear h9 HB9 hst hgt x0 x1 x2 c0 c2 c4 hmin hmin2 hsl0 hbw
        let U : Nat → World → Prop := fun jX W => match jX with | 0 => True | 1 => True | 2 => True | 3 => True | 4 => True | 5 => True | 6 => True | 7 => True | _ => True
        let R : Nat → World → World → Prop := fun jX W W2 => match jX with | 0 => RK w9.heap.size NN W W2 | 1 => W = W2 | 2 => RK w9.heap.size NN W W2 | 3 => W = W2 | 4 => W = W2 | 5 => RK w9.heap.size NN W W2 | 6 => RK w9.heap.size NN W W2 | 7 => W = W2 | _ => W = W2
        let V : Nat → Value → World → Prop := fun jX v W => match jX with | 0 => ∃ k0, v = .slice (some ⟨k0, 0, none⟩) 0 0 ∧ W.ownsRow w9.heap.size 9 1 (.slice (some ⟨k0, 0, none⟩) 0 0) 0 [] | 1 => v = hv | 2 => ∃ v2r, v = v2r ∧ W.ownsRow w9.heap.size 9 1 v2r ss.length (Fk.strs ss) ∧ (ss.length = 0 → ∃ k, v2r = .slice k 0 0) | 3 => v = .slice sp q c | 4 => v = .string tx | 5 => ∃ k5, v = .slice (some ⟨k5, 0, none⟩) 1 1 ∧ W.ownsRow w9.heap.size 9 1 (.slice (some ⟨k5, 0, none⟩) 1 1) 1 (Fk.strs [tx]) | 6 => ∃ v3, v = v3 ∧ W.ownsRow w9.heap.size 9 1 v3 (ss.length + 1) (Fk.strs ss ++ Fk.strs [tx]) | 7 => ∃ v4, v = v4 ∧ W.ownsRow w9.heap.size 9 1 v4 (ss.length + 1) (Fk.strs ss ++ Fk.strs [tx]) | _ => True
        refine wp_region_fill4 (by kernel_rfl) U V (fun W => Below w9.heap.size w9 W) R (by kernel_rfl) (by kernel_rfl) ((Below.refl _ _).drew) ?_ ?_ ?_ ?_ ?_ ?_
        · intro jX
          match jX with
          | 0 => exact trivial
          | 1 => exact trivial
          | 2 => exact trivial
          | 3 => exact trivial
          | 4 => exact trivial
          | 5 => exact trivial
          | 6 => exact trivial
          | 7 => exact trivial
          | nX + 8 => exact trivial
        · intro iX W W2 hr hi
          match iX, hr with
          | 0, hr => exact hi.trans hr.1
          | 1, hr => exact (show W = W2 from hr) ▸ hi
          | 2, hr => exact hi.trans hr.1
          | 3, hr => exact (show W = W2 from hr) ▸ hi
          | 4, hr => exact (show W = W2 from hr) ▸ hi
          | 5, hr => exact hi.trans hr.1
          | 6, hr => exact hi.trans hr.1
          | 7, hr => exact (show W = W2 from hr) ▸ hi
          | nX + 8, hr => exact (show W = W2 from hr) ▸ hi
        · intro iX jX W W2 hij hord hi hui hr h
          match iX, hij, hord, hui, hr with
          | 0, hij, hord, hui, hr =>
            match jX, hij, hord, h with
            | 0, hij, hord, h => exact absurd rfl hij
            | 1, hij, hord, h => exact h
            | 2, hij, hord, h => exact h
            | 3, hij, hord, h => exact h
            | 4, hij, hord, h => exact h
            | 5, hij, hord, h => exact h
            | 6, hij, hord, h => exact h
            | 7, hij, hord, h => exact h
            | nX + 8, hij, hord, h => exact h
          | 1, hij, hord, hui, hr => exact (show W = W2 from hr) ▸ h
          | 2, hij, hord, hui, hr =>
            match jX, hij, hord, h with
            | 0, hij, hord, h => exact h
            | 1, hij, hord, h => exact h
            | 2, hij, hord, h => exact absurd rfl hij
            | 3, hij, hord, h => exact h
            | 4, hij, hord, h => exact h
            | 5, hij, hord, h => exact h
            | 6, hij, hord, h => exact h
            | 7, hij, hord, h => exact h
            | nX + 8, hij, hord, h => exact h
          | 3, hij, hord, hui, hr => exact (show W = W2 from hr) ▸ h
          | 4, hij, hord, hui, hr => exact (show W = W2 from hr) ▸ h
          | 5, hij, hord, hui, hr =>
            match jX, hij, hord, h with
            | 0, hij, hord, h => exact h
            | 1, hij, hord, h => exact h
            | 2, hij, hord, h => exact h
            | 3, hij, hord, h => exact h
            | 4, hij, hord, h => exact h
            | 5, hij, hord, h => exact absurd rfl hij
            | 6, hij, hord, h => exact h
            | 7, hij, hord, h => exact h
            | nX + 8, hij, hord, h => exact h
          | 6, hij, hord, hui, hr =>
            match jX, hij, hord, h with
            | 0, hij, hord, h => exact h
            | 1, hij, hord, h => exact h
            | 2, hij, hord, h => exact h
            | 3, hij, hord, h => exact h
            | 4, hij, hord, h => exact h
            | 5, hij, hord, h => exact h
            | 6, hij, hord, h => exact absurd rfl hij
            | 7, hij, hord, h => exact h
            | nX + 8, hij, hord, h => exact h
          | 7, hij, hord, hui, hr => exact (show W = W2 from hr) ▸ h
          | nX + 8, hij, hord, hui, hr => exact (show W = W2 from hr) ▸ h
        · intro iX jX v W W2 hij hord hi hui hr h
          match iX, hij, hord, hui, hr with
          | 0, hij, hord, hui, hr =>
            match jX, hij, hord, h with
            | 0, hij, hord, h => exact absurd rfl hij
            | 1, hij, hord, h => exact h
            | 2, hij, hord, h => exact anc_no hord (by kernel_rfl)
            | 3, hij, hord, h => exact h
            | 4, hij, hord, h => exact h
            | 5, hij, hord, h => exact (by obtain ⟨k, h1, h2⟩ := h; exact ⟨k, h1, hr.2 _ _ _ hN1 h2⟩)
            | 6, hij, hord, h => exact anc_no hord (by kernel_rfl)
            | 7, hij, hord, h => exact anc_no hord (by kernel_rfl)
            | nX + 8, hij, hord, h => exact h
          | 1, hij, hord, hui, hr => exact (show W = W2 from hr) ▸ h
          | 2, hij, hord, hui, hr =>
            match jX, hij, hord, h with
            | 0, hij, hord, h => exact (by obtain ⟨k, h1, h2⟩ := h; exact ⟨k, h1, hr.2 _ _ _ (by omega) h2⟩)
            | 1, hij, hord, h => exact h
            | 2, hij, hord, h => exact absurd rfl hij
            | 3, hij, hord, h => exact h
            | 4, hij, hord, h => exact h
            | 5, hij, hord, h => exact (by obtain ⟨k, h1, h2⟩ := h; exact ⟨k, h1, hr.2 _ _ _ hN1 h2⟩)
            | 6, hij, hord, h => exact anc_no hord (by kernel_rfl)
            | 7, hij, hord, h => exact anc_no hord (by kernel_rfl)
            | nX + 8, hij, hord, h => exact h
          | 3, hij, hord, hui, hr => exact (show W = W2 from hr) ▸ h
          | 4, hij, hord, hui, hr => exact (show W = W2 from hr) ▸ h
          | 5, hij, hord, hui, hr =>
            match jX, hij, hord, h with
            | 0, hij, hord, h => exact (by obtain ⟨k, h1, h2⟩ := h; exact ⟨k, h1, hr.2 _ _ _ (by omega) h2⟩)
            | 1, hij, hord, h => exact h
            | 2, hij, hord, h => exact (by obtain ⟨k, h1, h2, h3⟩ := h; exact ⟨k, h1, hr.2 _ _ _ hN2 h2, h3⟩)
            | 3, hij, hord, h => exact h
            | 4, hij, hord, h => exact h
            | 5, hij, hord, h => exact absurd rfl hij
            | 6, hij, hord, h => exact anc_no hord (by kernel_rfl)
            | 7, hij, hord, h => exact anc_no hord (by kernel_rfl)
            | nX + 8, hij, hord, h => exact h
          | 6, hij, hord, hui, hr =>
            match jX, hij, hord, h with
            | 0, hij, hord, h => exact (by obtain ⟨k, h1, h2⟩ := h; exact ⟨k, h1, hr.2 _ _ _ (by omega) h2⟩)
            | 1, hij, hord, h => exact h
            | 2, hij, hord, h => exact (by obtain ⟨k, h1, h2, h3⟩ := h; exact ⟨k, h1, hr.2 _ _ _ hN2 h2, h3⟩)
            | 3, hij, hord, h => exact h
            | 4, hij, hord, h => exact h
            | 5, hij, hord, h => exact (by obtain ⟨k, h1, h2⟩ := h; exact ⟨k, h1, hr.2 _ _ _ hN1 h2⟩)
            | 6, hij, hord, h => exact absurd rfl hij
            | 7, hij, hord, h => exact anc_no hord (by kernel_rfl)
            | nX + 8, hij, hord, h => exact h
          | 7, hij, hord, hui, hr => exact (show W = W2 from hr) ▸ h
          | nX + 8, hij, hord, hui, hr => exact (show W = W2 from hr) ▸ h
        · intro iX o ho a W hN hi hui h
          match iX, ho, hui with
          | 0, ho, hui =>
            obtain rfl := Option.some.inj (show some _ = some o from ho)
            refine fill_value (v := .slice (some ⟨W.heap.size, 0, none⟩) 0 0) (w' := W.alloc (.cells #[] 9)) ho rfl (by rfl) (by clear h hN; have hcst : ∀ v, a.eval (.const v) = v := (fun _ => rfl); have hfun : ∀ f, a.eval (.func f) = .func (.func f) #[] #[] := (fun _ => rfl); generalize a.eval = ρ at *; go_simp) ⟨_, rfl, own_empty W hi.size⟩ (rk_of_below ((Below.refl _ W).alloc (Nat.le_refl _) _) hi.size)
          | 1, ho, hui =>
            obtain rfl := Option.some.inj (show some _ = some o from ho)
            have e6 : a.eval (.tmp 6) = hv := hN.eval 6 (by kernel_rfl)
            refine fill_value (v := hv) ho rfl (by rfl) (by clear h hN; have hcst : ∀ v, a.eval (.const v) = v := (fun _ => rfl); have hfun : ∀ f, a.eval (.func f) = .func (.func f) #[] #[] := (fun _ => rfl); generalize a.eval = ρ at *; go_simp) rfl (show W = W from rfl)
          | 2, ho, hui =>
            obtain rfl := Option.some.inj (show some _ = some o from ho)
            obtain ⟨k0, e58, p58⟩ : ∃ k0, a.eval (.tmp 58) = .slice (some ⟨k0, 0, none⟩) 0 0 ∧ W.ownsRow w9.heap.size 9 1 (.slice (some ⟨k0, 0, none⟩) 0 0) 0 [] := h ⟨0, .data⟩ (by simp) rfl
            have e59 : a.eval (.tmp 59) = hv := h ⟨1, .data⟩ (by simp) rfl
            obtain ⟨v2r, w2r, hrun, hv2, hrk⟩ := app_have p58 hi.size (HGW.out W hi) (by omega) 33
            refine fill_value (v := v2r) (w' := w2r) ho rfl (by rfl) (by clear h hN; have hcst : ∀ v, a.eval (.const v) = v := (fun _ => rfl); have hfun : ∀ f, a.eval (.func f) = .func (.func f) #[] #[] := (fun _ => rfl); generalize a.eval = ρ at *; simp [execOp, resolve, invoke, builtin, e58, e59, hrun, Result.andThen]) ⟨_, rfl, hv2⟩ (hrk NN)
          | 3, ho, hui =>
            obtain rfl := Option.some.inj (show some _ = some o from ho)
            have e9 : a.eval (.tmp 9) = .slice sp q c := hN.eval 9 (by kernel_rfl)
            refine fill_value (v := .slice sp q c) ho rfl (by rfl) (by clear h hN; have hcst : ∀ v, a.eval (.const v) = v := (fun _ => rfl); have hfun : ∀ f, a.eval (.func f) = .func (.func f) #[] #[] := (fun _ => rfl); generalize a.eval = ρ at *; go_simp) rfl (show W = W from rfl)
          | 4, ho, hui =>
            obtain rfl := Option.some.inj (show some _ = some o from ho)
            have e61 : a.eval (.tmp 61) = .slice sp q c := h ⟨3, .data⟩ (by simp) rfl
            have hcv := HCv.out W c (HBW.out W hi)
            refine fill_value (v := .string tx) ho rfl (by rfl) (by clear h hN; have hcst : ∀ v, a.eval (.const v) = v := (fun _ => rfl); have hfun : ∀ f, a.eval (.func f) = .func (.func f) #[] #[] := (fun _ => rfl); generalize a.eval = ρ at *; go_simp) rfl (show W = W from rfl)
          | 5, ho, hui =>
            obtain rfl := Option.some.inj (show some _ = some o from ho)
            have e62 : a.eval (.tmp 62) = .string tx := h ⟨4, .data⟩ (by simp) rfl
            refine fill_value (v := .slice (some ⟨W.heap.size, 0, none⟩) 1 1) (w' := W.alloc (.cells #[.string tx] 9)) ho rfl (by rfl) (by clear h hN; have hcst : ∀ v, a.eval (.const v) = v := (fun _ => rfl); have hfun : ∀ f, a.eval (.func f) = .func (.func f) #[] #[] := (fun _ => rfl); generalize a.eval = ρ at *; go_simp) ⟨_, rfl, own_one W hi.size tx⟩ (rk_of_below ((Below.refl _ W).alloc (Nat.le_refl _) _) hi.size)
          | 6, ho, hui =>
            obtain rfl := Option.some.inj (show some _ = some o from ho)
            obtain ⟨v2r, e60, p60⟩ : ∃ v2r, a.eval (.tmp 60) = v2r ∧ W.ownsRow w9.heap.size 9 1 v2r ss.length (Fk.strs ss) ∧ (ss.length = 0 → ∃ k, v2r = .slice k 0 0) := h ⟨2, .data⟩ (by simp) rfl
            obtain ⟨k5, e63, p63⟩ : ∃ k5, a.eval (.tmp 63) = .slice (some ⟨k5, 0, none⟩) 1 1 ∧ W.ownsRow w9.heap.size 9 1 (.slice (some ⟨k5, 0, none⟩) 1 1) 1 (Fk.strs [tx]) := h ⟨5, .data⟩ (by simp) rfl
            obtain ⟨v3, w3r, hrun, hv3, hrk⟩ := app_some p60.1 hi.size p60.2 ⟨k5, 0, none⟩ 1 1 [tx] rfl (one_at p63) (by omega) (by decide) 33
            refine fill_value (v := v3) (w' := w3r) ho rfl (by rfl) (by clear h hN; have hcst : ∀ v, a.eval (.const v) = v := (fun _ => rfl); have hfun : ∀ f, a.eval (.func f) = .func (.func f) #[] #[] := (fun _ => rfl); generalize a.eval = ρ at *; simp [execOp, resolve, invoke, builtin, e60, e63, hrun, Result.andThen]) ⟨_, rfl, hv3⟩ (hrk NN hN3)
          | 7, ho, hui =>
            obtain rfl := Option.some.inj (show some _ = some o from ho)
            obtain ⟨v3, e64, p64⟩ : ∃ v3, a.eval (.tmp 64) = v3 ∧ W.ownsRow w9.heap.size 9 1 v3 (ss.length + 1) (Fk.strs ss ++ Fk.strs [tx]) := h ⟨6, .data⟩ (by simp) rfl
            refine fill_value (v := v3) ho rfl (by rfl) (by clear h hN; have hcst : ∀ v, a.eval (.const v) = v := (fun _ => rfl); have hfun : ∀ f, a.eval (.func f) = .func (.func f) #[] #[] := (fun _ => rfl); generalize a.eval = ρ at *; go_simp) ⟨_, rfl, p64⟩ (show W = W from rfl)
          | nX + 8, ho, hui => exact absurd ho (by simp)
        · intro vals W hi h
          obtain ⟨k0, u0, p0⟩ : ∃ k0, vals 0 = .slice (some ⟨k0, 0, none⟩) 0 0 ∧ W.ownsRow w9.heap.size 9 1 (.slice (some ⟨k0, 0, none⟩) 0 0) 0 [] := h 0 (by decide)
          have u1 : vals 1 = hv := h 1 (by decide)
          obtain ⟨v2r, u2, p2⟩ : ∃ v2r, vals 2 = v2r ∧ W.ownsRow w9.heap.size 9 1 v2r ss.length (Fk.strs ss) ∧ (ss.length = 0 → ∃ k, v2r = .slice k 0 0) := h 2 (by decide)
          have u3 : vals 3 = .slice sp q c := h 3 (by decide)
          have u4 : vals 4 = .string tx := h 4 (by decide)
          obtain ⟨k5, u5, p5⟩ : ∃ k5, vals 5 = .slice (some ⟨k5, 0, none⟩) 1 1 ∧ W.ownsRow w9.heap.size 9 1 (.slice (some ⟨k5, 0, none⟩) 1 1) 1 (Fk.strs [tx]) := h 5 (by decide)
          obtain ⟨v3, u6, p6⟩ : ∃ v3, vals 6 = v3 ∧ W.ownsRow w9.heap.size 9 1 v3 (ss.length + 1) (Fk.strs ss ++ Fk.strs [tx]) := h 6 (by decide)
          obtain ⟨v4, u7, p7⟩ : ∃ v4, vals 7 = v4 ∧ W.ownsRow w9.heap.size 9 1 v4 (ss.length + 1) (Fk.strs ss ++ Fk.strs [tx]) := h 7 (by decide)
          generalize hA : fill _ _ _ _ = A
          have hA2 : (Act.put (Act.put (Act.put (Act.put (Act.put (Act.put (Act.put (Act.put (_ : Act) (some 58) (vals 0)) (some 59) (vals 1)) (some 60) (vals 2)) (some 61) (vals 3)) (some 62) (vals 4)) (some 63) (vals 5)) (some 64) (vals 6)) (some 10) (vals 7)) = A := hA
          clear hA h V R U
          rw [u0, u1, u2, u3, u4, u5, u6, u7] at hA2
          simp only [fill, Act.put, List.setIfInBounds_toArray, List.set_cons_succ, List.set_cons_zero] at hA2
          subst hA2
          clear u0 u1 u2 u3 u4 u5 u6 u7
          have HSd : Hid (Ar (· = bs) w0.heap.size W g l (1 + j) (20 + 100 * j)) := Lib.hid (ar_below HS9.out hi)
          have HGo : Hid (Got W g w0.heap.size hv ss) := Lib.hid (HGW.out W hi)
          have HGn1 : Hid (Got W g w0.heap.size v4 ((bs ++ [b]).map Fc.sv)) := Lib.hid (by
            rw [sv_inj_append, hss, HU.out]
            refine got_new HS9.out hi HBw9.out.size ?_ (by simp)
            have e1 : Fk.strs (ss ++ [tx]) = Fk.strs ss ++ Fk.strs [tx] := by simp [Fk.strs]
            rw [e1, List.length_append]
            exact p7)
          have HXd : Hid (∃ fr, W.heap[wo.heap.size]? = some (.cells #[.int .i64 v0, .slice sp n c, .int .i64 v2] 36 fr)) := Lib.hid (by
            obtain ⟨fr, hX⟩ := HX.out
            exact ⟨fr, (hi.block _ (Array.getElem?_eq_some_iff.1 hX).1).trans hX⟩)
          have y0 : W.cell? ⟨wo.heap.size, 0, none⟩ = some (.int .i64 v0) := by
            obtain ⟨fr, hX⟩ := HXd.out
            simp [World.cell?, hX]
          have HBd : Hid (Below w0.heap.size w0 W) := Lib.hid (HBw9.out.trans (hi.mono HBw9.out.size))
          have HR8 := Lib.hid (HBr.out W HBd.out)
          clear hi p7 p0 p2 p5 p6 HX HGW HS9 HBW hN1 hN2 hN3 HCv HBr HBw9
          obtain ⟨wd, hwd⟩ : ∃ y, y = W := ⟨_, rfl⟩
          subst hwd
          by_cases hv0 : v0 = 2
          · subst hv0
            have HTr := Lib.hid (ar_trunc HSd.out (by omega) (by omega))
            have HGn : Hid (Got wd g w0.heap.size (.slice none 0 0) (([] : List (List Nat)).map Fc.sv)) := Lib.hid (got_nil _ _ _)
            clear HR8 HGn1
            go_wp2_with fail
            refine HTr.out.mono ?_
            rintro e w4 ⟨hout, HB4, HK4⟩
            clear HTr y0
            rcases hout with ⟨rfl, HA4⟩ | ⟨rfl, HD4⟩
            · have HAz := Lib.hid (ar_mono (A' := 1 + (j + 1)) (K' := 20 + 100 * (j + 1)) HA4.out (by omega) (by omega))
              have HBz := Lib.hid (HBd.out.trans HB4.out)
              clear HGo HXd HK4 HSd HA4
              go_wp2_with fail
              go_roundw
              case rel => exact ⟨j + 1, l, _, [], rfl, rfl, by go_num, by omega, by simp, HAz, Lib.hid (got_nil _ _ _), HBz⟩
              case measure => simp [intOf]; omega
            · have HG4o := Lib.hid (got_keepA HSd.out HK4.out HGo.out)
              have HG4n : Hid (Got w4 g w0.heap.size (.slice none 0 0) (([] : List (List Nat)).map Fc.sv)) := Lib.hid (got_keepA HSd.out HK4.out HGn.out)
              have HX4 : Hid (∃ fr, w4.heap[wo.heap.size]? = some (.cells #[.int .i64 2, .slice sp n c, .int .i64 v2] 36 fr)) := Lib.hid (by
                obtain ⟨fr, hX⟩ := HXd.out
                exact ⟨fr, ar_spot HSd.out notTEn notTEl hX HK4.out⟩)
              have HBw4 := Lib.hid (HBd.out.trans HB4.out)
              have HCr := Lib.hid (dn2_crash HD4.out (by omega) (Nat.lt_of_lt_of_le HGh.out HB0.out.size) b0 m0 e0 pk (fun W' hW => HPk.out W' (HB0.out.trans ((HBw4.out.trans hW).mono HB0.out.size))))
              have x2' := (HNc.out w4 HBw4.out).2.2
              clear HK4 HSd HD4 HGo HGn HXd HB4
              go_wp2_with fail
              refine HCr.out.mono ?_
              rintro e w5 ⟨rfl, HU5, HB5, HK5⟩
              have HG5o := Lib.hid (got_keepT HK5.out HG4o.out)
              have HG5n := Lib.hid (got_keepT HK5.out HG4n.out)
              have HX5 : Hid (∃ fr, w5.heap[wo.heap.size]? = some (.cells #[.int .i64 2, .slice sp n c, .int .i64 v2] 36 fr)) := Lib.hid (by
                obtain ⟨fr, hX⟩ := HX4.out
                exact ⟨fr, HK5.out.cells hX notTEn⟩)
              have HBw5 := Lib.hid (HBw4.out.trans HB5.out)
              have HOp := Lib.hid (up_again HU5.out (Nat.lt_of_lt_of_le HGh.out HB0.out.size))
              clear HCr HU5 HK5 HB5 HG4o HG4n HX4 x2' HBw4
              go_wp2_with fail
              refine HOp.out.mono ?_
              rintro e w6 ⟨l', ra, rn, rc, bs2, rfl, hrn, hP, HRb, HS6, HB6⟩
              have HBw6 := Lib.hid (HBw5.out.trans (HB6.out.mono HBw5.out.size))
              have HX6 : Hid (∀ W, Below w6.heap.size w6 W → W.cell? ⟨wo.heap.size, 2, none⟩ = some (.int .i64 v2)) := Lib.hid fun W hW => by
                obtain ⟨fr, hX⟩ := HX5.out
                have hX2 : W.heap[wo.heap.size]? = _ := (hW.block _ (Nat.lt_of_lt_of_le (Array.getElem?_eq_some_iff.1 hX).1 HB6.out.size)).trans ((HB6.out.block _ (Array.getElem?_eq_some_iff.1 hX).1).trans hX)
                simp [World.cell?, hX2]
              have HG6o := Lib.hid (got_below HG5o.out HB6.out)
              have HG6n := Lib.hid (got_below HG5n.out HB6.out)
              obtain ⟨sa, sn, sc, rfl, hRo⟩ := rows_own HG6o.out.1 HG6o.out.2.1
              obtain ⟨ta, tn, tc, hnv, hRn⟩ := rows_own HG6n.out.1 HG6n.out.2.1
              cases hnv
              have hsn : sn ≤ 100000 := by have := hRo.1; omega
              have htn : (0 : Nat) ≤ 100000 := by decide
              obtain ⟨kk, hk1, hk2⟩ := Fw.mod_cut1 v2 12 (by decide) (by decide)
              have hk3 : wrap64 ((IntKind.u64.wrap v2).tmod 12) = (kk : Int) := hk1
              clear HOp HB6 HG5o HG5n HX5 HBw5
              by_cases hsm : bs2.map Fc.sv = ss
              · have HSm : Hid (∀ W, Below w6.heap.size w6 W → Calls Tryd.prog 19 #[.slice ra rn rc, .slice sa sn sc] W fun e w' => e = .returned (.bool true) ∧ Hid (Below W.heap.size W w')) := Lib.hid fun W hW => same_any ra rn rc bs2 sa sn sc ss W (rowb_below HRb.out hW) (rows_below hRo hW) (by omega) hsn true ⟨fun _ => hsm, fun _ => rfl⟩
                have HGe : Hid (∀ W, KeepT g w6 W → Got W g w0.heap.size (.slice sa sn sc) (bs2.map Fc.sv)) := Lib.hid fun W hW => by rw [hsm]; exact got_keepT hW HG6o.out
                have hlen : bs2.length ≤ j + 1 := by have := congrArg List.length hsm; rw [List.length_map] at this; omega
                clear HG6o HG6n hRo hRn HRb hsm hP
                go_wp2_with fail
                refine (HSm.out w6 (Below.refl _ _)).mono ?_
                rintro e w7 ⟨rfl, HB7⟩
                go_wp2_with fail
                refine (HSm.out w7 HB7.out).mono ?_
                rintro e w8 ⟨rfl, HB8⟩
                have HB68 := Lib.hid (HB7.out.trans (HB8.out.mono HB7.out.size))
                have z2 := HX6.out w8 HB68.out
                have HAr := Lib.hid (st_arms (st_below HS6.out HB68.out) kk (by omega))
                have HGe8 := Lib.hid (HGe.out w8 (KeepT.of_below HB68.out))
                have HBw8 := Lib.hid (HBw6.out.trans (HB68.out.mono HBw6.out.size))
                clear HSm HGe HX6 HB7 HB8 HB68 HS6 HBw6
                go_wp2_with fail
                refine HAr.out.mono ?_
                rintro e w9' ⟨rfl, HA9, HB9', HK9⟩
                have HAz := Lib.hid (ar_mono (A' := 1 + (j + 1)) (K' := 20 + 100 * (j + 1)) HA9.out (by omega) (by omega))
                have HGz := Lib.hid (got_keepT HK9.out HGe8.out)
                have HBz := Lib.hid (HBw8.out.trans HB9'.out)
                clear HAr HA9 HB9' HK9 HGe8 HBw8 z2
                go_wp2_with fail
                go_roundw
                case rel => exact ⟨j + 1, l', _, _, rfl, rfl, by go_num, by omega, hlen, HAz, HGz, HBz⟩
                case measure => simp [intOf]; omega
              · have hbs2 : bs2 = ([] : List (List Nat)) := by
                  rcases hP with h | h
                  · exact absurd (by rw [h]; exact hss) hsm
                  · exact h
                subst hbs2
                have HSm : Hid (∀ W, Below w6.heap.size w6 W → Calls Tryd.prog 19 #[.slice ra rn rc, .slice sa sn sc] W fun e w' => e = .returned (.bool false) ∧ Hid (Below W.heap.size W w')) := Lib.hid fun W hW => same_any ra rn rc _ sa sn sc ss W (rowb_below HRb.out hW) (rows_below hRo hW) (by omega) hsn false ⟨(fun h => by cases h), fun h => absurd h hsm⟩
                have HSn : Hid (∀ W, Below w6.heap.size w6 W → Calls Tryd.prog 19 #[.slice ra rn rc, .slice none 0 0] W fun e w' => e = .returned (.bool true) ∧ Hid (Below W.heap.size W w')) := Lib.hid fun W hW => same_any ra rn rc _ none 0 0 _ W (rowb_below HRb.out hW) (rows_below hRn hW) (by omega) htn true ⟨fun _ => rfl, fun _ => rfl⟩
                have HGe : Hid (∀ W, KeepT g w6 W → Got W g w0.heap.size (.slice none 0 0) (([] : List (List Nat)).map Fc.sv)) := Lib.hid fun W hW => got_keepT hW HG6n.out
                have hlen : ([] : List (List Nat)).length ≤ j + 1 := by simp; try omega
                clear HG6o HG6n hRo hRn HRb hsm hP
                go_wp2_with fail
                refine (HSm.out w6 (Below.refl _ _)).mono ?_
                rintro e w7 ⟨rfl, HB7⟩
                go_wp2_with fail
                refine (HSn.out w7 HB7.out).mono ?_
                rintro e w7b ⟨rfl, HB7b⟩
                have HB67 := Lib.hid (HB7.out.trans (HB7b.out.mono HB7.out.size))
                go_wp2_with fail
                refine (HSm.out w7b HB67.out).mono ?_
                rintro e w8 ⟨rfl, HB8⟩
                have HB68 := Lib.hid (HB67.out.trans (HB8.out.mono HB67.out.size))
                clear HSn HB7b HB67
                have z2 := HX6.out w8 HB68.out
                have HAr := Lib.hid (st_arms (st_below HS6.out HB68.out) kk (by omega))
                have HGe8 := Lib.hid (HGe.out w8 (KeepT.of_below HB68.out))
                have HBw8 := Lib.hid (HBw6.out.trans (HB68.out.mono HBw6.out.size))
                clear HSm HGe HX6 HB7 HB8 HB68 HS6 HBw6
                go_wp2_with fail
                refine HAr.out.mono ?_
                rintro e w9' ⟨rfl, HA9, HB9', HK9⟩
                have HAz := Lib.hid (ar_mono (A' := 1 + (j + 1)) (K' := 20 + 100 * (j + 1)) HA9.out (by omega) (by omega))
                have HGz := Lib.hid (got_keepT HK9.out HGe8.out)
                have HBz := Lib.hid (HBw8.out.trans HB9'.out)
                clear HAr HA9 HB9' HK9 HGe8 HBw8 z2
                go_wp2_with fail
                go_roundw
                case rel => exact ⟨j + 1, l', _, _, rfl, rfl, by go_num, by omega, hlen, HAz, HGz, HBz⟩
                case measure => simp [intOf]; omega
          · have HAp := Lib.hid (ar_append HSd.out (by omega) b q c sp Hb.out.1 hq hqc Hb.out.2 HR8.out)
            have hv0I : ¬ (v0 = (2 : Int)) := hv0
            have HGn := HGn1
            clear HR8 HGn1
            go_wp2_with fail
            refine HAp.out.mono ?_
            rintro e w4 ⟨hout, HB4, HK4⟩
            clear HAp y0
            rcases hout with ⟨rfl, HA4⟩ | ⟨rfl, HA4⟩ | ⟨rfl, HD4⟩
            · have HAz := Lib.hid (ar_mono (A' := 1 + (j + 1)) (K' := 20 + 100 * (j + 1)) HA4.out (by omega) (by omega))
              have HBz := Lib.hid (HBd.out.trans HB4.out)
              have HGz := Lib.hid (got_keepA HSd.out HK4.out HGn.out)
              clear HGo HXd HK4 HSd HA4 HGn
              go_wp2_with fail
              go_roundw
              case rel => exact ⟨j + 1, l, _, bs ++ [b], rfl, rfl, by go_num, by omega, by simp; omega, HAz, HGz, HBz⟩
              case measure => simp [intOf]; omega
            · have HAz := Lib.hid (ar_mono (A' := 1 + (j + 1)) (K' := 20 + 100 * (j + 1)) HA4.out (by omega) (by omega))
              have HBz := Lib.hid (HBd.out.trans HB4.out)
              have HGz : Hid (Got w4 g w0.heap.size hv (bs.map Fc.sv)) := Lib.hid (by rw [hss]; exact got_keepA HSd.out HK4.out HGo.out)
              clear HGo HXd HK4 HSd HA4 HGn
              go_wp2_with fail
              go_roundw
              case rel => exact ⟨j + 1, l, _, bs, rfl, rfl, by go_num, by omega, by omega, HAz, HGz, HBz⟩
              case measure => simp [intOf]; omega
            · have HG4o := Lib.hid (got_keepA HSd.out HK4.out HGo.out)
              have HG4n : Hid (Got w4 g w0.heap.size v4 ((bs ++ [b]).map Fc.sv)) := Lib.hid (got_keepA HSd.out HK4.out HGn.out)
              have HX4 : Hid (∃ fr, w4.heap[wo.heap.size]? = some (.cells #[.int .i64 v0, .slice sp n c, .int .i64 v2] 36 fr)) := Lib.hid (by
                obtain ⟨fr, hX⟩ := HXd.out
                exact ⟨fr, ar_spot HSd.out notTEn notTEl hX HK4.out⟩)
              have HBw4 := Lib.hid (HBd.out.trans HB4.out)
              have HCr := Lib.hid (dn2_crash HD4.out (by omega) (Nat.lt_of_lt_of_le HGh.out HB0.out.size) b0 m0 e0 pk (fun W' hW => HPk.out W' (HB0.out.trans ((HBw4.out.trans hW).mono HB0.out.size))))
              have x2' := (HNc.out w4 HBw4.out).2.2
              clear HK4 HSd HD4 HGo HGn HXd HB4
              go_wp2_with fail
              refine HCr.out.mono ?_
              rintro e w5 ⟨rfl, HU5, HB5, HK5⟩
              have HG5o := Lib.hid (got_keepT HK5.out HG4o.out)
              have HG5n := Lib.hid (got_keepT HK5.out HG4n.out)
              have HX5 : Hid (∃ fr, w5.heap[wo.heap.size]? = some (.cells #[.int .i64 v0, .slice sp n c, .int .i64 v2] 36 fr)) := Lib.hid (by
                obtain ⟨fr, hX⟩ := HX4.out
                exact ⟨fr, HK5.out.cells hX notTEn⟩)
              have HBw5 := Lib.hid (HBw4.out.trans HB5.out)
              have HOp := Lib.hid (up_again HU5.out (Nat.lt_of_lt_of_le HGh.out HB0.out.size))
              clear HCr HU5 HK5 HB5 HG4o HG4n HX4 x2' HBw4
              go_wp2_with fail
              refine HOp.out.mono ?_
              rintro e w6 ⟨l', ra, rn, rc, bs2, rfl, hrn, hP, HRb, HS6, HB6⟩
              have HBw6 := Lib.hid (HBw5.out.trans (HB6.out.mono HBw5.out.size))
              have HX6 : Hid (∀ W, Below w6.heap.size w6 W → W.cell? ⟨wo.heap.size, 2, none⟩ = some (.int .i64 v2)) := Lib.hid fun W hW => by
                obtain ⟨fr, hX⟩ := HX5.out
                have hX2 : W.heap[wo.heap.size]? = _ := (hW.block _ (Nat.lt_of_lt_of_le (Array.getElem?_eq_some_iff.1 hX).1 HB6.out.size)).trans ((HB6.out.block _ (Array.getElem?_eq_some_iff.1 hX).1).trans hX)
                simp [World.cell?, hX2]
              have HG6o := Lib.hid (got_below HG5o.out HB6.out)
              have HG6n := Lib.hid (got_below HG5n.out HB6.out)
              obtain ⟨sa, sn, sc, rfl, hRo⟩ := rows_own HG6o.out.1 HG6o.out.2.1
              obtain ⟨ta, tn, tc, hnv, hRn⟩ := rows_own HG6n.out.1 HG6n.out.2.1
              subst hnv
              have hsn : sn ≤ 100000 := by have := hRo.1; omega
              have htn : tn ≤ 100000 := by have := hRn.1; rw [List.length_map] at this; simp at this; omega
              obtain ⟨kk, hk1, hk2⟩ := Fw.mod_cut1 v2 12 (by decide) (by decide)
              have hk3 : wrap64 ((IntKind.u64.wrap v2).tmod 12) = (kk : Int) := hk1
              clear HOp HB6 HG5o HG5n HX5 HBw5
              by_cases hsm : bs2.map Fc.sv = ss
              · have HSm : Hid (∀ W, Below w6.heap.size w6 W → Calls Tryd.prog 19 #[.slice ra rn rc, .slice sa sn sc] W fun e w' => e = .returned (.bool true) ∧ Hid (Below W.heap.size W w')) := Lib.hid fun W hW => same_any ra rn rc bs2 sa sn sc ss W (rowb_below HRb.out hW) (rows_below hRo hW) (by omega) hsn true ⟨fun _ => hsm, fun _ => rfl⟩
                have HGe : Hid (∀ W, KeepT g w6 W → Got W g w0.heap.size (.slice sa sn sc) (bs2.map Fc.sv)) := Lib.hid fun W hW => by rw [hsm]; exact got_keepT hW HG6o.out
                have hlen : bs2.length ≤ j + 1 := by have := congrArg List.length hsm; rw [List.length_map] at this; omega
                clear HG6o HG6n hRo hRn HRb hsm hP
                go_wp2_with fail
                refine (HSm.out w6 (Below.refl _ _)).mono ?_
                rintro e w7 ⟨rfl, HB7⟩
                go_wp2_with fail
                refine (HSm.out w7 HB7.out).mono ?_
                rintro e w8 ⟨rfl, HB8⟩
                have HB68 := Lib.hid (HB7.out.trans (HB8.out.mono HB7.out.size))
                have z2 := HX6.out w8 HB68.out
                have HAr := Lib.hid (st_arms (st_below HS6.out HB68.out) kk (by omega))
                have HGe8 := Lib.hid (HGe.out w8 (KeepT.of_below HB68.out))
                have HBw8 := Lib.hid (HBw6.out.trans (HB68.out.mono HBw6.out.size))
                clear HSm HGe HX6 HB7 HB8 HB68 HS6 HBw6
                go_wp2_with fail
                refine HAr.out.mono ?_
                rintro e w9' ⟨rfl, HA9, HB9', HK9⟩
                have HAz := Lib.hid (ar_mono (A' := 1 + (j + 1)) (K' := 20 + 100 * (j + 1)) HA9.out (by omega) (by omega))
                have HGz := Lib.hid (got_keepT HK9.out HGe8.out)
                have HBz := Lib.hid (HBw8.out.trans HB9'.out)
                clear HAr HA9 HB9' HK9 HGe8 HBw8 z2
                go_wp2_with fail
                go_roundw
                case rel => exact ⟨j + 1, l', _, _, rfl, rfl, by go_num, by omega, hlen, HAz, HGz, HBz⟩
                case measure => simp [intOf]; omega
              · have hbs2 : bs2 = (bs ++ [b]) := by
                  rcases hP with h | h
                  · exact absurd (by rw [h]; exact hss) hsm
                  · exact h
                subst hbs2
                have HSm : Hid (∀ W, Below w6.heap.size w6 W → Calls Tryd.prog 19 #[.slice ra rn rc, .slice sa sn sc] W fun e w' => e = .returned (.bool false) ∧ Hid (Below W.heap.size W w')) := Lib.hid fun W hW => same_any ra rn rc _ sa sn sc ss W (rowb_below HRb.out hW) (rows_below hRo hW) (by omega) hsn false ⟨(fun h => by cases h), fun h => absurd h hsm⟩
                have HSn : Hid (∀ W, Below w6.heap.size w6 W → Calls Tryd.prog 19 #[.slice ra rn rc, .slice ta tn tc] W fun e w' => e = .returned (.bool true) ∧ Hid (Below W.heap.size W w')) := Lib.hid fun W hW => same_any ra rn rc _ ta tn tc _ W (rowb_below HRb.out hW) (rows_below hRn hW) (by omega) htn true ⟨fun _ => rfl, fun _ => rfl⟩
                have HGe : Hid (∀ W, KeepT g w6 W → Got W g w0.heap.size (.slice ta tn tc) ((bs ++ [b]).map Fc.sv)) := Lib.hid fun W hW => got_keepT hW HG6n.out
                have hlen : ((bs ++ [b]) : List (List Nat)).length ≤ j + 1 := by simp; try omega
                clear HG6o HG6n hRo hRn HRb hsm hP
                go_wp2_with fail
                refine (HSm.out w6 (Below.refl _ _)).mono ?_
                rintro e w7 ⟨rfl, HB7⟩
                go_wp2_with fail
                refine (HSn.out w7 HB7.out).mono ?_
                rintro e w7b ⟨rfl, HB7b⟩
                have HB67 := Lib.hid (HB7.out.trans (HB7b.out.mono HB7.out.size))
                go_wp2_with fail
                refine (HSm.out w7b HB67.out).mono ?_
                rintro e w8 ⟨rfl, HB8⟩
                have HB68 := Lib.hid (HB67.out.trans (HB8.out.mono HB67.out.size))
                clear HSn HB7b HB67
                have z2 := HX6.out w8 HB68.out
                have HAr := Lib.hid (st_arms (st_below HS6.out HB68.out) kk (by omega))
                have HGe8 := Lib.hid (HGe.out w8 (KeepT.of_below HB68.out))
                have HBw8 := Lib.hid (HBw6.out.trans (HB68.out.mono HBw6.out.size))
                clear HSm HGe HX6 HB7 HB8 HB68 HS6 HBw6
                go_wp2_with fail
                refine HAr.out.mono ?_
                rintro e w9' ⟨rfl, HA9, HB9', HK9⟩
                have HAz := Lib.hid (ar_mono (A' := 1 + (j + 1)) (K' := 20 + 100 * (j + 1)) HA9.out (by omega) (by omega))
                have HGz := Lib.hid (got_keepT HK9.out HGe8.out)
                have HBz := Lib.hid (HBw8.out.trans HB9'.out)
                clear HAr HA9 HB9' HK9 HGe8 HBw8 z2
                go_wp2_with fail
                go_roundw
                case rel => exact ⟨j + 1, l', _, _, rfl, rfl, by go_num, by omega, hlen, HAz, HGz, HBz⟩
                case measure => simp [intOf]; omega
      · obtain rfl : j = 24 := by omega
        have hltI : ((24 : Nat) : Int) < (len0 : Int) := by omega
        have HCr : Hid (Calls Tryd.prog 30 #[.pointer (some ⟨g, 0, none⟩), .slice none 0 0] wo fun e w' => e = .returned (.tuple #[]) ∧ Hid (Up (· = bs) w0.heap.size w' g (1 + 24) (20 + 100 * 24)) ∧ Hid (Below w0.heap.size wo w') ∧ Hid (KeepT g wo w')) := Lib.hid (dn2_crash (dn2_of hst.out) (by omega) (Nat.lt_of_lt_of_le HGh.out HB0.out.size) none 0 0 (fun _ => 0) (fun W' hW i hi => by omega))
        go_wp2_with fail
        clear x0 x1 x2
        refine HCr.out.mono ?_
        rintro e w11 ⟨rfl, HU11, HB11, HK11⟩
        have HG11 := Lib.hid (got_keepT HK11.out hgt.out)
        have HOp := Lib.hid (up_again HU11.out (Nat.lt_of_lt_of_le HGh.out HB0.out.size))
        have HBq := Lib.hid (hbw.out.trans HB11.out)
        clear HCr HU11 HK11 HB11 hst hgt
        go_wp2_with fail
        refine HOp.out.mono ?_
        rintro e w12 ⟨l', ra, rn, rc, bs2, rfl, hrn, rfl, HRb, HS12, HB12⟩
        obtain ⟨sa, sn, sc, rfl, hRS⟩ := rows_own (got_below HG11.out HB12.out).1 (got_below HG11.out HB12.out).2.1
        have hsn : sn ≤ 100000 := by have := hRS.1; rw [List.length_map] at this; omega
        have HSm := Lib.hid (same_any ra rn rc bs2 sa sn sc (bs2.map Fc.sv) w12 HRb.out hRS (by omega) hsn true ⟨fun _ => rfl, fun _ => rfl⟩)
        have HBz := Lib.hid (HB0.out.trans ((HBq.out.trans (HB12.out.mono HBq.out.size)).mono HB0.out.size))
        clear HOp HRb hRS HS12 HG11 HB12 HBq
        go_wp2_with fail
        refine HSm.out.mono ?_
        rintro e w13 ⟨rfl, HB13⟩
        have HBf := Lib.hid (HBz.out.trans (HB13.out.mono HBz.out.size))
        clear HSm HBz HB13
        go_wp2_with fail
        go_ret
        exact ⟨rfl, HBf.out⟩
    · have hltI : ¬ ((j : Int) < (len0 : Int)) := by omega
      have HCr : Hid (Calls Tryd.prog 30 #[.pointer (some ⟨g, 0, none⟩), .slice none 0 0] wo fun e w' => e = .returned (.tuple #[]) ∧ Hid (Up (· = bs) w0.heap.size w' g (1 + j) (20 + 100 * j)) ∧ Hid (Below w0.heap.size wo w') ∧ Hid (KeepT g wo w')) := Lib.hid (dn2_crash (dn2_of hst.out) (by omega) (Nat.lt_of_lt_of_le HGh.out HB0.out.size) none 0 0 (fun _ => 0) (fun W' hW i hi => by omega))
      go_wp2_with fail
      clear x0 x1 x2
      refine HCr.out.mono ?_
      rintro e w11 ⟨rfl, HU11, HB11, HK11⟩
      have HG11 := Lib.hid (got_keepT HK11.out hgt.out)
      have HOp := Lib.hid (up_again HU11.out (Nat.lt_of_lt_of_le HGh.out HB0.out.size))
      have HBq := Lib.hid (hbw.out.trans HB11.out)
      clear HCr HU11 HK11 HB11 hst hgt
      go_wp2_with fail
      refine HOp.out.mono ?_
      rintro e w12 ⟨l', ra, rn, rc, bs2, rfl, hrn, rfl, HRb, HS12, HB12⟩
      obtain ⟨sa, sn, sc, rfl, hRS⟩ := rows_own (got_below HG11.out HB12.out).1 (got_below HG11.out HB12.out).2.1
      have hsn : sn ≤ 100000 := by have := hRS.1; rw [List.length_map] at this; omega
      have HSm := Lib.hid (same_any ra rn rc bs2 sa sn sc (bs2.map Fc.sv) w12 HRb.out hRS (by omega) hsn true ⟨fun _ => rfl, fun _ => rfl⟩)
      have HBz := Lib.hid (HB0.out.trans ((HBq.out.trans (HB12.out.mono HBq.out.size)).mono HB0.out.size))
      clear HOp HRb hRS HS12 HG11 HB12 HBq
      go_wp2_with fail
      refine HSm.out.mono ?_
      rintro e w13 ⟨rfl, HB13⟩
      have HBf := Lib.hid (HBz.out.trans (HB13.out.mono HBz.out.size))
      clear HSm HBz HB13
      go_wp2_with fail
      go_ret
      exact ⟨rfl, HBf.out⟩
end Go.Proofs.YtfhgdcljhncjmaaDoor
