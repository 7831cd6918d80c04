/- The walk of the law DiskApart. -/
import Derived.Test.YtmojieomdbfjcaaApartD
import Derived.Test.YtmojieomdbfjcaaRows3
namespace Go.Proofs.Ytmojieomdbfjcaa
open Go.ChangeShapes Go.WideShapes Go.ChangeAt Go.RowKit
set_option linter.unusedVariables false

/-- the law's rows of calls -/
def ActsAt (w : World) (a : Option Addr) (len : Nat) (X N Y : Nat → Int) : Prop := ∀ i, i < len → ∃ g o, a = some ⟨g, o, none⟩ ∧ w.cell? ⟨g, o + i * 5, none⟩ = some (.int .i64 (X i)) ∧ w.cell? ⟨g, o + i * 5 + 1, none⟩ = some (.int .i64 (N i)) ∧ w.cell? ⟨g, o + i * 5 + 2, none⟩ = some (.int .u8 (Y i))
theorem acts_later {w W : World} {a : Option Addr} {len : Nat} {X N Y : Nat → Int} (h : ActsAt w a len X N Y) (hb : Below w.heap.size w W) : ActsAt W a len X N Y := fun i hi => by
  obtain ⟨g, o, e, h1, h2, h3⟩ := h i hi
  exact ⟨g, o, e, by rw [hb.cell (World.block_lt_of_cell? w _ h1)]; exact h1, by rw [hb.cell (World.block_lt_of_cell? w _ h2)]; exact h2, by rw [hb.cell (World.block_lt_of_cell? w _ h3)]; exact h3⟩
set_option maxRecDepth 100000 in
set_option maxHeartbeats 40000000 in
theorem apart_mid (sa : Option Addr) (La ca : Nat) (sb : Option Addr) (Lb cb : Nat) (w : World) (X N Y X2 N2 Y2 : Nat → Int) (hA : ActsAt w sa La X N Y) (hB : ActsAt w sb Lb X2 N2 Y2) :
    Calls Try.prog 5 #[.slice sa La ca, .slice sb Lb cb] w fun e w' => e = .returned (.bool true) ∧ Below w.heap.size w w' := by
  have HNew := new_any 6 (by decide) (by decide) w
  have HNew := Lib.hid HNew
  have HLasts := Lib.hid lasts_any
  have HFull := Lib.hid (fun x W => full_any x W)
  have HA := Lib.hid hA
  have HB := Lib.hid hB
  clear hA hB
  go_enter Try.func5, Try.ntmps5
  go_wp2_with fail
  refine HNew.out.mono ?_
  rintro e w1 ⟨g, gn, gl, cn, cl, rfl, hD, hB1'⟩
  have hzl : List.replicate 6 (Value.string zeros) = strs (List.replicate 6 zeros) := by unfold strs; rw [List.map_replicate]
  have hzs : zeros.size = 512 := by rw [zeros_sec]; exact secS_size 0
  rw [hzl] at hD
  have hD1 : Hid (D6 w.heap.size w1 g (List.replicate 6 zeros) 0) := Lib.hid ⟨gn, gl, cn, cl, _, _, [], 0, hD, by simp, by simp, by omega, by omega, by simp, fun t ht => by rw [(List.mem_replicate.1 ht).2]; exact hzs⟩
  have hB1 := Lib.hid hB1'
  clear hD hB1' HNew hzl hzs
  go_wp2_with fail
  refine (HLasts.out w1).mono ?_
  rintro e w2 ⟨rfl, hB2'⟩
  have hD2 := Lib.hid (d6_below hD1.out hB2')
  have hB2 := Lib.hid (hB1.out.trans (hB2'.mono hB1.out.size))
  clear hB2' hD1 hB1 HLasts
  go_wp2_with fail
  go_loopw [7] (fun i wr => ∃ (k : Nat) (ls : List ByteArray), i = .int .i64 (k : Int) ∧ k ≤ 25 ∧ k ≤ La ∧ Hid (D6 w.heap.size wr g ls k ∧ Below w.heap.size w wr)) (fun i _ => 25 - (intOf i).toNat)
  case atStart => exact ⟨0, _, rfl, by omega, by omega, Lib.hid ⟨hD2.out, hB2.out⟩⟩
  case round =>
    obtain ⟨k, ls, rfl, hk25, hkL, hI⟩ := hrel
    by_cases hk : k < La ∧ k < 25
    · obtain ⟨hk1, hk2⟩ := hk
      obtain ⟨ga, oa, e1, c0, c1, c2⟩ := acts_later HA.out (hI.out.2) k hk1
      have HS2' := fun (V : World) (hV : Below w.heap.size w V) => acts_later HA.out (hV) k hk1
      subst e1
      obtain ⟨xx, hx⟩ : ∃ x, X k = x := ⟨_, rfl⟩
      obtain ⟨nn, hn⟩ : ∃ x, N k = x := ⟨_, rfl⟩
      obtain ⟨yy, hy⟩ : ∃ x, Y k = x := ⟨_, rfl⟩
      rw [hx] at c0
      rw [hn] at c1
      rw [hy] at c2
      have HS2 : Hid (∀ V, Below w.heap.size w V → V.cell? ⟨ga, oa + k * 5, none⟩ = some (.int .i64 xx)) := Lib.hid fun V hV => by
        obtain ⟨ga', oa', e1, q0, _⟩ := HS2' V hV
        cases e1
        rw [← hx]; exact q0
      have hga : ga < w.heap.size := by
        obtain ⟨ga3, oa3, e3, q0, _⟩ := HA.out k hk1
        cases e3
        exact World.block_lt_of_cell? w _ q0
      clear HS2' hx hn hy
      have i0 : (0 : Int) ≤ (k : Int) := Int.natCast_nonneg k
      have i1 : (k : Int) < (La : Int) := by omega
      have i2 : (k : Int) < 25 := by omega
      by_cases hx1 : xx = 1
      · subst hx1
        go_wp2_with fail
        let U : Nat → World → Prop := fun j W => match j with | 0 => True | 1 => True | 2 => True | 3 => True | 4 => True | 5 => True | 6 => True | 7 => True | 8 => True | 9 => True | 10 => True | 11 => True | 12 => D6 w.heap.size W g ls k | _ => True
        let R : Nat → World → World → Prop := fun j W W2 => match j with | 0 => W = W2 | 1 => W = W2 | 2 => W = W2 | 3 => W = W2 | 4 => W = W2 | 5 => W = W2 | 6 => W = W2 | 7 => W = W2 | 8 => W = W2 | 9 => W = W2 | 10 => W = W2 | 11 => Below W.heap.size W W2 | 12 => Below w.heap.size W W2 ∧ ∀ gb x, Sec W gb x → Sec W2 gb x | _ => W = W2
        let V : Nat → Value → World → Prop := fun j v W => match j with | 0 => v = .pointer (some ⟨g, 0, none⟩) | 1 => v = .slice (some ⟨ga, oa, none⟩) La ca | 2 => v = .int .i64 (k : Int) | 3 => v = .pointer (some ⟨ga, oa + k * 5, none⟩) | 4 => v = .pointer (some ⟨ga, oa + k * 5 + 1, none⟩) | 5 => v = .int .i64 nn | 6 => v = .slice (some ⟨ga, oa, none⟩) La ca | 7 => v = .int .i64 (k : Int) | 8 => v = .pointer (some ⟨ga, oa + k * 5, none⟩) | 9 => v = .pointer (some ⟨ga, oa + k * 5 + 2, none⟩) | 10 => v = .int .u8 yy | 11 => ∃ gb, v = .slice (some ⟨gb, 0, none⟩) 512 512 ∧ Sec W gb yy ∧ gb ≠ g | 12 => ∃ vv, v = .int .i64 vv ∧ D6 w.heap.size W g ls (k + 1) | _ => True
        refine wp_region_fill2 (by kernel_rfl) U V (fun W => Below w.heap.size w W ∧ W.cell? ⟨ga, oa + k * 5 + 1, none⟩ = some (.int .i64 nn) ∧ W.cell? ⟨ga, oa + k * 5 + 2, none⟩ = some (.int .u8 yy) ∧ g < W.heap.size) R (by kernel_rfl) (by kernel_rfl) (⟨hI.out.2.trans ((Below.refl _ _).drew), c1, c2, (d6_lt hI.out.1).1⟩) ?_ ?_ ?_ ?_ ?_ ?_
        · intro j
          match j with
          | 0 => exact trivial
          | 1 => exact trivial
          | 2 => exact trivial
          | 3 => exact trivial
          | 4 => exact trivial
          | 5 => exact trivial
          | 6 => exact trivial
          | 7 => exact trivial
          | 8 => exact trivial
          | 9 => exact trivial
          | 10 => exact trivial
          | 11 => exact trivial
          | 12 => exact d6_below hI.out.1 ((Below.refl _ _).drew)
          | n + 13 => exact trivial
        · intro i W W2 hr hi
          match i, hr with
          | 0, hr => exact (show W = W2 from hr) ▸ hi
          | 1, hr => exact (show W = W2 from hr) ▸ hi
          | 2, hr => exact (show W = W2 from hr) ▸ hi
          | 3, hr => exact (show W = W2 from hr) ▸ hi
          | 4, hr => exact (show W = W2 from hr) ▸ hi
          | 5, hr => exact (show W = W2 from hr) ▸ hi
          | 6, hr => exact (show W = W2 from hr) ▸ hi
          | 7, hr => exact (show W = W2 from hr) ▸ hi
          | 8, hr => exact (show W = W2 from hr) ▸ hi
          | 9, hr => exact (show W = W2 from hr) ▸ hi
          | 10, hr => exact (show W = W2 from hr) ▸ hi
          | 11, hr => exact ⟨hi.1.trans (Below.mono hr hi.1.size), (Below.cell hr (World.block_lt_of_cell? _ _ hi.2.1)).trans hi.2.1, (Below.cell hr (World.block_lt_of_cell? _ _ hi.2.2.1)).trans hi.2.2.1, Nat.lt_of_lt_of_le hi.2.2.2 (Below.size hr)⟩
          | 12, hr => exact ⟨hi.1.trans hr.1, (Below.cell hr.1 hga).trans hi.2.1, (Below.cell hr.1 hga).trans hi.2.2.1, Nat.lt_of_lt_of_le hi.2.2.2 (Below.size hr.1)⟩
          | n + 13, hr => exact (show W = W2 from hr) ▸ hi
        · intro i j W W2 hij hi hui hr h
          match i, hij, hui, hr with
          | 0, hij, hui, hr => exact (show W = W2 from hr) ▸ h
          | 1, hij, hui, hr => exact (show W = W2 from hr) ▸ h
          | 2, hij, hui, hr => exact (show W = W2 from hr) ▸ h
          | 3, hij, hui, hr => exact (show W = W2 from hr) ▸ h
          | 4, hij, hui, hr => exact (show W = W2 from hr) ▸ h
          | 5, hij, hui, hr => exact (show W = W2 from hr) ▸ h
          | 6, hij, hui, hr => exact (show W = W2 from hr) ▸ h
          | 7, hij, hui, hr => exact (show W = W2 from hr) ▸ h
          | 8, hij, hui, hr => exact (show W = W2 from hr) ▸ h
          | 9, hij, hui, hr => exact (show W = W2 from hr) ▸ h
          | 10, hij, hui, hr => exact (show W = W2 from hr) ▸ h
          | 11, hij, hui, hr =>
            match j, hij, h with
            | 0, hij, h => exact h
            | 1, hij, h => exact h
            | 2, hij, h => exact h
            | 3, hij, h => exact h
            | 4, hij, h => exact h
            | 5, hij, h => exact h
            | 6, hij, h => exact h
            | 7, hij, h => exact h
            | 8, hij, h => exact h
            | 9, hij, h => exact h
            | 10, hij, h => exact h
            | 11, hij, h => exact absurd rfl hij
            | 12, hij, h => exact d6_below h hr
            | n + 13, hij, h => exact h
          | 12, hij, hui, hr =>
            match j, hij, h with
            | 0, hij, h => exact h
            | 1, hij, h => exact h
            | 2, hij, h => exact h
            | 3, hij, h => exact h
            | 4, hij, h => exact h
            | 5, hij, h => exact h
            | 6, hij, h => exact h
            | 7, hij, h => exact h
            | 8, hij, h => exact h
            | 9, hij, h => exact h
            | 10, hij, h => exact h
            | 11, hij, h => exact h
            | 12, hij, h => exact absurd rfl hij
            | n + 13, hij, h => exact h
          | n + 13, hij, hui, hr => exact (show W = W2 from hr) ▸ h
        · intro i j v W W2 hij hi hui hr h
          match i, hij, hui, hr with
          | 0, hij, hui, hr => exact (show W = W2 from hr) ▸ h
          | 1, hij, hui, hr => exact (show W = W2 from hr) ▸ h
          | 2, hij, hui, hr => exact (show W = W2 from hr) ▸ h
          | 3, hij, hui, hr => exact (show W = W2 from hr) ▸ h
          | 4, hij, hui, hr => exact (show W = W2 from hr) ▸ h
          | 5, hij, hui, hr => exact (show W = W2 from hr) ▸ h
          | 6, hij, hui, hr => exact (show W = W2 from hr) ▸ h
          | 7, hij, hui, hr => exact (show W = W2 from hr) ▸ h
          | 8, hij, hui, hr => exact (show W = W2 from hr) ▸ h
          | 9, hij, hui, hr => exact (show W = W2 from hr) ▸ h
          | 10, hij, hui, hr => exact (show W = W2 from hr) ▸ h
          | 11, hij, hui, hr =>
            match j, hij, h with
            | 0, hij, h => exact h
            | 1, hij, h => exact h
            | 2, hij, h => exact h
            | 3, hij, h => exact h
            | 4, hij, h => exact h
            | 5, hij, h => exact h
            | 6, hij, h => exact h
            | 7, hij, h => exact h
            | 8, hij, h => exact h
            | 9, hij, h => exact h
            | 10, hij, h => exact h
            | 11, hij, h => exact absurd rfl hij
            | 12, hij, h => exact (by obtain ⟨vv, h1, h2⟩ := h; exact ⟨vv, h1, d6_below h2 hr⟩)
            | n + 13, hij, h => exact h
          | 12, hij, hui, hr =>
            match j, hij, h with
            | 0, hij, h => exact h
            | 1, hij, h => exact h
            | 2, hij, h => exact h
            | 3, hij, h => exact h
            | 4, hij, h => exact h
            | 5, hij, h => exact h
            | 6, hij, h => exact h
            | 7, hij, h => exact h
            | 8, hij, h => exact h
            | 9, hij, h => exact h
            | 10, hij, h => exact h
            | 11, hij, h => exact (by obtain ⟨gb, h1, h2, h3⟩ := h; exact ⟨gb, h1, hr.2 _ _ h2, h3⟩)
            | 12, hij, h => exact absurd rfl hij
            | n + 13, hij, h => exact h
          | n + 13, hij, hui, hr => exact (show W = W2 from hr) ▸ h
        · intro i o ho a W hN hi hui h
          match i, ho, hui with
          | 0, ho, hui =>
            obtain rfl := Option.some.inj (show some _ = some o from ho)
            have e5 : a.eval (.tmp 5) = .pointer (some ⟨g, 0, none⟩) := hN.eval 5 (by kernel_rfl)
            refine fill_value (v := .pointer (some ⟨g, 0, none⟩)) ho rfl (by rfl) (by clear h hN; have hcst : ∀ v, a.eval (.const v) = v := (fun _ => rfl); have hfun : ∀ f, a.eval (.func f) = .func (.func f) #[] #[] := (fun _ => rfl); generalize a.eval = ρ at *; go_simp) rfl (show W = W from rfl)
          | 1, ho, hui =>
            obtain rfl := Option.some.inj (show some _ = some o from ho)
            have e0 : a.eval (.tmp 0) = .slice (some ⟨ga, oa, none⟩) La ca := hN.eval 0 (by kernel_rfl)
            refine fill_value (v := .slice (some ⟨ga, oa, none⟩) La ca) ho rfl (by rfl) (by clear h hN; have hcst : ∀ v, a.eval (.const v) = v := (fun _ => rfl); have hfun : ∀ f, a.eval (.func f) = .func (.func f) #[] #[] := (fun _ => rfl); generalize a.eval = ρ at *; go_simp) rfl (show W = W from rfl)
          | 2, ho, hui =>
            obtain rfl := Option.some.inj (show some _ = some o from ho)
            have e7 : a.eval (.tmp 7) = .int .i64 (k : Int) := hN.eval 7 (by kernel_rfl)
            refine fill_value (v := .int .i64 (k : Int)) ho rfl (by rfl) (by clear h hN; have hcst : ∀ v, a.eval (.const v) = v := (fun _ => rfl); have hfun : ∀ f, a.eval (.func f) = .func (.func f) #[] #[] := (fun _ => rfl); generalize a.eval = ρ at *; go_simp) rfl (show W = W from rfl)
          | 3, ho, hui =>
            obtain rfl := Option.some.inj (show some _ = some o from ho)
            have e39 : a.eval (.tmp 39) = .slice (some ⟨ga, oa, none⟩) La ca := h ⟨1, .data⟩ (by simp) rfl
            have e40 : a.eval (.tmp 40) = .int .i64 (k : Int) := h ⟨2, .data⟩ (by simp) rfl
            refine fill_value (v := .pointer (some ⟨ga, oa + k * 5, none⟩)) ho rfl (by rfl) (by clear h hN; have hcst : ∀ v, a.eval (.const v) = v := (fun _ => rfl); have hfun : ∀ f, a.eval (.func f) = .func (.func f) #[] #[] := (fun _ => rfl); generalize a.eval = ρ at *; go_simp) rfl (show W = W from rfl)
          | 4, ho, hui =>
            obtain rfl := Option.some.inj (show some _ = some o from ho)
            have e41 : a.eval (.tmp 41) = .pointer (some ⟨ga, oa + k * 5, none⟩) := h ⟨3, .data⟩ (by simp) rfl
            refine fill_value (v := .pointer (some ⟨ga, oa + k * 5 + 1, none⟩)) ho rfl (by rfl) (by clear h hN; have hcst : ∀ v, a.eval (.const v) = v := (fun _ => rfl); have hfun : ∀ f, a.eval (.func f) = .func (.func f) #[] #[] := (fun _ => rfl); generalize a.eval = ρ at *; go_simp) rfl (show W = W from rfl)
          | 5, ho, hui =>
            obtain rfl := Option.some.inj (show some _ = some o from ho)
            have e42 : a.eval (.tmp 42) = .pointer (some ⟨ga, oa + k * 5 + 1, none⟩) := h ⟨4, .data⟩ (by simp) rfl
            have hc := hi.2.1
            refine fill_value (v := .int .i64 nn) ho rfl (by rfl) (by clear h hN; have hcst : ∀ v, a.eval (.const v) = v := (fun _ => rfl); have hfun : ∀ f, a.eval (.func f) = .func (.func f) #[] #[] := (fun _ => rfl); generalize a.eval = ρ at *; go_simp) rfl (show W = W from rfl)
          | 6, ho, hui =>
            obtain rfl := Option.some.inj (show some _ = some o from ho)
            have e0 : a.eval (.tmp 0) = .slice (some ⟨ga, oa, none⟩) La ca := hN.eval 0 (by kernel_rfl)
            refine fill_value (v := .slice (some ⟨ga, oa, none⟩) La ca) ho rfl (by rfl) (by clear h hN; have hcst : ∀ v, a.eval (.const v) = v := (fun _ => rfl); have hfun : ∀ f, a.eval (.func f) = .func (.func f) #[] #[] := (fun _ => rfl); generalize a.eval = ρ at *; go_simp) rfl (show W = W from rfl)
          | 7, ho, hui =>
            obtain rfl := Option.some.inj (show some _ = some o from ho)
            have e7 : a.eval (.tmp 7) = .int .i64 (k : Int) := hN.eval 7 (by kernel_rfl)
            refine fill_value (v := .int .i64 (k : Int)) ho rfl (by rfl) (by clear h hN; have hcst : ∀ v, a.eval (.const v) = v := (fun _ => rfl); have hfun : ∀ f, a.eval (.func f) = .func (.func f) #[] #[] := (fun _ => rfl); generalize a.eval = ρ at *; go_simp) rfl (show W = W from rfl)
          | 8, ho, hui =>
            obtain rfl := Option.some.inj (show some _ = some o from ho)
            have e44 : a.eval (.tmp 44) = .slice (some ⟨ga, oa, none⟩) La ca := h ⟨6, .data⟩ (by simp) rfl
            have e45 : a.eval (.tmp 45) = .int .i64 (k : Int) := h ⟨7, .data⟩ (by simp) rfl
            refine fill_value (v := .pointer (some ⟨ga, oa + k * 5, none⟩)) ho rfl (by rfl) (by clear h hN; have hcst : ∀ v, a.eval (.const v) = v := (fun _ => rfl); have hfun : ∀ f, a.eval (.func f) = .func (.func f) #[] #[] := (fun _ => rfl); generalize a.eval = ρ at *; go_simp) rfl (show W = W from rfl)
          | 9, ho, hui =>
            obtain rfl := Option.some.inj (show some _ = some o from ho)
            have e46 : a.eval (.tmp 46) = .pointer (some ⟨ga, oa + k * 5, none⟩) := h ⟨8, .data⟩ (by simp) rfl
            refine fill_value (v := .pointer (some ⟨ga, oa + k * 5 + 2, none⟩)) ho rfl (by rfl) (by clear h hN; have hcst : ∀ v, a.eval (.const v) = v := (fun _ => rfl); have hfun : ∀ f, a.eval (.func f) = .func (.func f) #[] #[] := (fun _ => rfl); generalize a.eval = ρ at *; go_simp) rfl (show W = W from rfl)
          | 10, ho, hui =>
            obtain rfl := Option.some.inj (show some _ = some o from ho)
            have e47 : a.eval (.tmp 47) = .pointer (some ⟨ga, oa + k * 5 + 2, none⟩) := h ⟨9, .data⟩ (by simp) rfl
            have hc := hi.2.2.1
            refine fill_value (v := .int .u8 yy) ho rfl (by rfl) (by clear h hN; have hcst : ∀ v, a.eval (.const v) = v := (fun _ => rfl); have hfun : ∀ f, a.eval (.func f) = .func (.func f) #[] #[] := (fun _ => rfl); generalize a.eval = ρ at *; go_simp) rfl (show W = W from rfl)
          | 11, ho, hui =>
            obtain rfl := Option.some.inj (show some _ = some o from ho)
            have e48 : a.eval (.tmp 48) = .int .u8 yy := h ⟨10, .data⟩ (by simp) rfl
            refine fill_enter (f := 9) (args := #[.int .u8 yy]) ho rfl (by rfl) (by clear h hN; have hcst : ∀ v, a.eval (.const v) = v := (fun _ => rfl); have hfun : ∀ f, a.eval (.func f) = .func (.func f) #[] #[] := (fun _ => rfl); generalize a.eval = ρ at *; go_simp) (HFull.out yy W) ?_
            rintro e w2 ⟨rfl, hF⟩
            exact ⟨_, rfl, ⟨_, rfl, sec_of hF, Nat.ne_of_gt hi.2.2.2⟩, hF.below⟩
          | 12, ho, hui =>
            obtain rfl := Option.some.inj (show some _ = some o from ho)
            have e38 : a.eval (.tmp 38) = .pointer (some ⟨g, 0, none⟩) := h ⟨0, .data⟩ (by simp) rfl
            have e43 : a.eval (.tmp 43) = .int .i64 nn := h ⟨5, .data⟩ (by simp) rfl
            obtain ⟨gb, e49, p49⟩ : ∃ gb, a.eval (.tmp 49) = .slice (some ⟨gb, 0, none⟩) 512 512 ∧ Sec W gb yy ∧ gb ≠ g := h ⟨11, .data⟩ (by simp) rfl
            refine fill_enter (f := 8) (args := #[.pointer (some ⟨g, 0, none⟩), .int .i64 nn, .slice (some ⟨gb, 0, none⟩) 512 512]) ho rfl (by rfl) (by clear h hN; have hcst : ∀ v, a.eval (.const v) = v := (fun _ => rfl); have hfun : ∀ f, a.eval (.func f) = .func (.func f) #[] #[] := (fun _ => rfl); generalize a.eval = ρ at *; go_simp) (d6_write2 hui (by omega) nn yy gb p49.1 p49.2) ?_
            rintro e w2 ⟨vv, rfl, h5, h6, h7⟩
            exact ⟨_, rfl, ⟨vv, rfl, h5⟩, ⟨h6, h7⟩⟩
          | n + 13, ho, hui => exact absurd ho (by simp)
        · intro vals W hi h
          have u0 : vals 0 = .pointer (some ⟨g, 0, none⟩) := h 0 (by decide)
          have u1 : vals 1 = .slice (some ⟨ga, oa, none⟩) La ca := h 1 (by decide)
          have u2 : vals 2 = .int .i64 (k : Int) := h 2 (by decide)
          have u3 : vals 3 = .pointer (some ⟨ga, oa + k * 5, none⟩) := h 3 (by decide)
          have u4 : vals 4 = .pointer (some ⟨ga, oa + k * 5 + 1, none⟩) := h 4 (by decide)
          have u5 : vals 5 = .int .i64 nn := h 5 (by decide)
          have u6 : vals 6 = .slice (some ⟨ga, oa, none⟩) La ca := h 6 (by decide)
          have u7 : vals 7 = .int .i64 (k : Int) := h 7 (by decide)
          have u8 : vals 8 = .pointer (some ⟨ga, oa + k * 5, none⟩) := h 8 (by decide)
          have u9 : vals 9 = .pointer (some ⟨ga, oa + k * 5 + 2, none⟩) := h 9 (by decide)
          have u10 : vals 10 = .int .u8 yy := h 10 (by decide)
          obtain ⟨gb, u11, p11⟩ : ∃ gb, vals 11 = .slice (some ⟨gb, 0, none⟩) 512 512 ∧ Sec W gb yy ∧ gb ≠ g := h 11 (by decide)
          obtain ⟨vv, u12, p12⟩ : ∃ vv, vals 12 = .int .i64 vv ∧ D6 w.heap.size W g ls (k + 1) := h 12 (by decide)
          generalize hA : fill _ _ _ _ = A
          have hA2 : (Act.put (Act.put (Act.put (Act.put (Act.put (Act.put (Act.put (Act.put (Act.put (Act.put (Act.put (Act.put (Act.put (_ : Act) (some 38) (vals 0)) (some 39) (vals 1)) (some 40) (vals 2)) (some 41) (vals 3)) (some 42) (vals 4)) (some 43) (vals 5)) (some 44) (vals 6)) (some 45) (vals 7)) (some 46) (vals 8)) (some 47) (vals 9)) (some 48) (vals 10)) (some 49) (vals 11)) (some 50) (vals 12)) = A := hA
          clear hA h V R U
          rw [u0, u1, u2, u3, u4, u5, u6, u7, u8, u9, u10, u11, u12] at hA2
          simp only [fill, Act.put, List.setIfInBounds_toArray, List.set_cons_succ, List.set_cons_zero] at hA2
          subst hA2
          clear u0 u1 u2 u3 u4 u5 u6 u7 u8 u9 u10 u11 u12
          have hn : Hid (D6 w.heap.size W g ls (k + 1) ∧ Below w.heap.size w W) := Lib.hid ⟨p12, hi.1⟩
          have c0W : W.cell? ⟨ga, oa + k * 5, none⟩ = some (.int .i64 1) := (HS2.out W hi.1)
          clear p11 p12 hi hI c0 c1 c2
          go_wp2_with fail
          go_roundw
          case rel => exact ⟨k + 1, ls, by go_num, by omega, by omega, hn⟩
          case measure => simp [intOf]; omega
      · have hb1 : (xx == 1) = false := by simpa using hx1
        by_cases hx3 : xx = 3
        · subst hx3
          go_wp2_with fail
          refine (d6_barrier hI.out.1 (by omega)).mono ?_
          rintro e w5 ⟨rfl, ls5, hD5, hB5⟩
          have hn : Hid (D6 w.heap.size w5 g ls5 (k + 1) ∧ Below w.heap.size w w5) := Lib.hid ⟨hD5, hI.out.2.trans hB5⟩
          clear hD5 hB5 hI c0 c1 c2
          go_wp2_with fail
          go_roundw
          case rel => exact ⟨k + 1, ls5, by go_num, by omega, by omega, hn⟩
          case measure => simp [intOf]; omega
        · have hb3 : (xx == 3) = false := by simpa using hx3
          have hn : Hid (D6 w.heap.size wr g ls (k + 1) ∧ Below w.heap.size w wr) := Lib.hid ⟨d6_mono hI.out.1 (by omega), hI.out.2⟩
          clear hI
          go_wp2_with fail
          go_roundw
          case rel => exact ⟨k + 1, ls, by go_num, by omega, by omega, hn⟩
          case measure => simp [intOf]; omega
    · by_cases hk1 : k < La
      · have hk2 : ¬ k < 25 := fun h => hk ⟨hk1, h⟩
        clear hk
        have hd3 : Hid (D6 w.heap.size wr g ls 25) := Lib.hid (d6_mono hI.out.1 hk25)
        have hb3 := Lib.hid hI.out.2
        clear hI
        go_wp2_with fail
        refine (d6_image hd3.out).mono ?_
        rintro e w4 ⟨v4, rfl, hc4, hb4'⟩
        have hd4 := Lib.hid (d6_below hd3.out hb4')
        have hb4 := Lib.hid (hb3.out.trans (hb4'.mono hb3.out.size))
        have hq4 := hc4.out w4 (Below.refl _ _)
        clear hb4' hd3 hb3 hc4
        go_wp2_with fail
        refine (d6_copy hd4.out).mono ?_
        clear hq4
        rintro e w5 ⟨gc, rfl, hC, hb5'⟩
        have hC5 : Hid (D6 w4.heap.size w5 gc ls 0 ∧ Below w4.heap.size w4 w5) := Lib.hid ⟨hC, hb5'⟩
        obtain ⟨ld, rfl⟩ : ∃ ld, ld = ls := ⟨_, rfl⟩
        clear hC hb5'
        go_wp2_with fail
        go_loopw [10] (fun i wr => ∃ (k : Nat) (ls : List ByteArray), i = .int .i64 (k : Int) ∧ k ≤ 25 ∧ k ≤ Lb ∧ Hid (D6 w4.heap.size wr gc ls k ∧ Below w4.heap.size w4 wr)) (fun i _ => 25 - (intOf i).toNat)
        case atStart => exact ⟨0, _, rfl, by omega, by omega, hC5⟩
        case round =>
          obtain ⟨k, ls, rfl, hk25, hkL, hI⟩ := hrel
          by_cases hk : k < Lb ∧ k < 25
          · obtain ⟨hk1, hk2⟩ := hk
            obtain ⟨ga, oa, e1, c0, c1, c2⟩ := acts_later HB.out (hb4.out.trans (hI.out.2.mono hb4.out.size)) k hk1
            have HS2' := fun (V : World) (hV : Below w4.heap.size w4 V) => acts_later HB.out (hb4.out.trans (hV.mono hb4.out.size)) k hk1
            subst e1
            obtain ⟨xx, hx⟩ : ∃ x, X2 k = x := ⟨_, rfl⟩
            obtain ⟨nn, hn⟩ : ∃ x, N2 k = x := ⟨_, rfl⟩
            obtain ⟨yy, hy⟩ : ∃ x, Y2 k = x := ⟨_, rfl⟩
            rw [hx] at c0
            rw [hn] at c1
            rw [hy] at c2
            have HS2 : Hid (∀ V, Below w4.heap.size w4 V → V.cell? ⟨ga, oa + k * 5, none⟩ = some (.int .i64 xx)) := Lib.hid fun V hV => by
              obtain ⟨ga', oa', e1, q0, _⟩ := HS2' V hV
              cases e1
              rw [← hx]; exact q0
            have hga : ga < w4.heap.size := by
              obtain ⟨ga3, oa3, e3, q0, _⟩ := HB.out k hk1
              cases e3
              exact Nat.lt_of_lt_of_le (World.block_lt_of_cell? w _ q0) hb4.out.size
            clear HS2' hx hn hy
            have i0 : (0 : Int) ≤ (k : Int) := Int.natCast_nonneg k
            have i1 : (k : Int) < (Lb : Int) := by omega
            have i2 : (k : Int) < 25 := by omega
            by_cases hx1 : xx = 1
            · subst hx1
              go_wp2_with fail
              let U : Nat → World → Prop := fun j W => match j with | 0 => True | 1 => True | 2 => True | 3 => True | 4 => True | 5 => True | 6 => True | 7 => True | 8 => True | 9 => True | 10 => True | 11 => True | 12 => D6 w4.heap.size W gc ls k | _ => True
              let R : Nat → World → World → Prop := fun j W W2 => match j with | 0 => W = W2 | 1 => W = W2 | 2 => W = W2 | 3 => W = W2 | 4 => W = W2 | 5 => W = W2 | 6 => W = W2 | 7 => W = W2 | 8 => W = W2 | 9 => W = W2 | 10 => W = W2 | 11 => Below W.heap.size W W2 | 12 => Below w4.heap.size W W2 ∧ ∀ gb x, Sec W gb x → Sec W2 gb x | _ => W = W2
              let V : Nat → Value → World → Prop := fun j v W => match j with | 0 => v = .pointer (some ⟨gc, 0, none⟩) | 1 => v = .slice (some ⟨ga, oa, none⟩) Lb cb | 2 => v = .int .i64 (k : Int) | 3 => v = .pointer (some ⟨ga, oa + k * 5, none⟩) | 4 => v = .pointer (some ⟨ga, oa + k * 5 + 1, none⟩) | 5 => v = .int .i64 nn | 6 => v = .slice (some ⟨ga, oa, none⟩) Lb cb | 7 => v = .int .i64 (k : Int) | 8 => v = .pointer (some ⟨ga, oa + k * 5, none⟩) | 9 => v = .pointer (some ⟨ga, oa + k * 5 + 2, none⟩) | 10 => v = .int .u8 yy | 11 => ∃ gb, v = .slice (some ⟨gb, 0, none⟩) 512 512 ∧ Sec W gb yy ∧ gb ≠ gc | 12 => ∃ vv, v = .int .i64 vv ∧ D6 w4.heap.size W gc ls (k + 1) | _ => True
              refine wp_region_fill2 (by kernel_rfl) U V (fun W => Below w4.heap.size w4 W ∧ W.cell? ⟨ga, oa + k * 5 + 1, none⟩ = some (.int .i64 nn) ∧ W.cell? ⟨ga, oa + k * 5 + 2, none⟩ = some (.int .u8 yy) ∧ gc < W.heap.size) R (by kernel_rfl) (by kernel_rfl) (⟨hI.out.2.trans ((Below.refl _ _).drew), c1, c2, (d6_lt hI.out.1).1⟩) ?_ ?_ ?_ ?_ ?_ ?_
              · intro j
                match j with
                | 0 => exact trivial
                | 1 => exact trivial
                | 2 => exact trivial
                | 3 => exact trivial
                | 4 => exact trivial
                | 5 => exact trivial
                | 6 => exact trivial
                | 7 => exact trivial
                | 8 => exact trivial
                | 9 => exact trivial
                | 10 => exact trivial
                | 11 => exact trivial
                | 12 => exact d6_below hI.out.1 ((Below.refl _ _).drew)
                | n + 13 => exact trivial
              · intro i W W2 hr hi
                match i, hr with
                | 0, hr => exact (show W = W2 from hr) ▸ hi
                | 1, hr => exact (show W = W2 from hr) ▸ hi
                | 2, hr => exact (show W = W2 from hr) ▸ hi
                | 3, hr => exact (show W = W2 from hr) ▸ hi
                | 4, hr => exact (show W = W2 from hr) ▸ hi
                | 5, hr => exact (show W = W2 from hr) ▸ hi
                | 6, hr => exact (show W = W2 from hr) ▸ hi
                | 7, hr => exact (show W = W2 from hr) ▸ hi
                | 8, hr => exact (show W = W2 from hr) ▸ hi
                | 9, hr => exact (show W = W2 from hr) ▸ hi
                | 10, hr => exact (show W = W2 from hr) ▸ hi
                | 11, hr => exact ⟨hi.1.trans (Below.mono hr hi.1.size), (Below.cell hr (World.block_lt_of_cell? _ _ hi.2.1)).trans hi.2.1, (Below.cell hr (World.block_lt_of_cell? _ _ hi.2.2.1)).trans hi.2.2.1, Nat.lt_of_lt_of_le hi.2.2.2 (Below.size hr)⟩
                | 12, hr => exact ⟨hi.1.trans hr.1, (Below.cell hr.1 hga).trans hi.2.1, (Below.cell hr.1 hga).trans hi.2.2.1, Nat.lt_of_lt_of_le hi.2.2.2 (Below.size hr.1)⟩
                | n + 13, hr => exact (show W = W2 from hr) ▸ hi
              · intro i j W W2 hij hi hui hr h
                match i, hij, hui, hr with
                | 0, hij, hui, hr => exact (show W = W2 from hr) ▸ h
                | 1, hij, hui, hr => exact (show W = W2 from hr) ▸ h
                | 2, hij, hui, hr => exact (show W = W2 from hr) ▸ h
                | 3, hij, hui, hr => exact (show W = W2 from hr) ▸ h
                | 4, hij, hui, hr => exact (show W = W2 from hr) ▸ h
                | 5, hij, hui, hr => exact (show W = W2 from hr) ▸ h
                | 6, hij, hui, hr => exact (show W = W2 from hr) ▸ h
                | 7, hij, hui, hr => exact (show W = W2 from hr) ▸ h
                | 8, hij, hui, hr => exact (show W = W2 from hr) ▸ h
                | 9, hij, hui, hr => exact (show W = W2 from hr) ▸ h
                | 10, hij, hui, hr => exact (show W = W2 from hr) ▸ h
                | 11, hij, hui, hr =>
                  match j, hij, h with
                  | 0, hij, h => exact h
                  | 1, hij, h => exact h
                  | 2, hij, h => exact h
                  | 3, hij, h => exact h
                  | 4, hij, h => exact h
                  | 5, hij, h => exact h
                  | 6, hij, h => exact h
                  | 7, hij, h => exact h
                  | 8, hij, h => exact h
                  | 9, hij, h => exact h
                  | 10, hij, h => exact h
                  | 11, hij, h => exact absurd rfl hij
                  | 12, hij, h => exact d6_below h hr
                  | n + 13, hij, h => exact h
                | 12, hij, hui, hr =>
                  match j, hij, h with
                  | 0, hij, h => exact h
                  | 1, hij, h => exact h
                  | 2, hij, h => exact h
                  | 3, hij, h => exact h
                  | 4, hij, h => exact h
                  | 5, hij, h => exact h
                  | 6, hij, h => exact h
                  | 7, hij, h => exact h
                  | 8, hij, h => exact h
                  | 9, hij, h => exact h
                  | 10, hij, h => exact h
                  | 11, hij, h => exact h
                  | 12, hij, h => exact absurd rfl hij
                  | n + 13, hij, h => exact h
                | n + 13, hij, hui, hr => exact (show W = W2 from hr) ▸ h
              · intro i j v W W2 hij hi hui hr h
                match i, hij, hui, hr with
                | 0, hij, hui, hr => exact (show W = W2 from hr) ▸ h
                | 1, hij, hui, hr => exact (show W = W2 from hr) ▸ h
                | 2, hij, hui, hr => exact (show W = W2 from hr) ▸ h
                | 3, hij, hui, hr => exact (show W = W2 from hr) ▸ h
                | 4, hij, hui, hr => exact (show W = W2 from hr) ▸ h
                | 5, hij, hui, hr => exact (show W = W2 from hr) ▸ h
                | 6, hij, hui, hr => exact (show W = W2 from hr) ▸ h
                | 7, hij, hui, hr => exact (show W = W2 from hr) ▸ h
                | 8, hij, hui, hr => exact (show W = W2 from hr) ▸ h
                | 9, hij, hui, hr => exact (show W = W2 from hr) ▸ h
                | 10, hij, hui, hr => exact (show W = W2 from hr) ▸ h
                | 11, hij, hui, hr =>
                  match j, hij, h with
                  | 0, hij, h => exact h
                  | 1, hij, h => exact h
                  | 2, hij, h => exact h
                  | 3, hij, h => exact h
                  | 4, hij, h => exact h
                  | 5, hij, h => exact h
                  | 6, hij, h => exact h
                  | 7, hij, h => exact h
                  | 8, hij, h => exact h
                  | 9, hij, h => exact h
                  | 10, hij, h => exact h
                  | 11, hij, h => exact absurd rfl hij
                  | 12, hij, h => exact (by obtain ⟨vv, h1, h2⟩ := h; exact ⟨vv, h1, d6_below h2 hr⟩)
                  | n + 13, hij, h => exact h
                | 12, hij, hui, hr =>
                  match j, hij, h with
                  | 0, hij, h => exact h
                  | 1, hij, h => exact h
                  | 2, hij, h => exact h
                  | 3, hij, h => exact h
                  | 4, hij, h => exact h
                  | 5, hij, h => exact h
                  | 6, hij, h => exact h
                  | 7, hij, h => exact h
                  | 8, hij, h => exact h
                  | 9, hij, h => exact h
                  | 10, hij, h => exact h
                  | 11, hij, h => exact (by obtain ⟨gb, h1, h2, h3⟩ := h; exact ⟨gb, h1, hr.2 _ _ h2, h3⟩)
                  | 12, hij, h => exact absurd rfl hij
                  | n + 13, hij, h => exact h
                | n + 13, hij, hui, hr => exact (show W = W2 from hr) ▸ h
              · intro i o ho a W hN hi hui h
                match i, ho, hui with
                | 0, ho, hui =>
                  obtain rfl := Option.some.inj (show some _ = some o from ho)
                  have e9 : a.eval (.tmp 9) = .pointer (some ⟨gc, 0, none⟩) := hN.eval 9 (by kernel_rfl)
                  refine fill_value (v := .pointer (some ⟨gc, 0, none⟩)) ho rfl (by rfl) (by clear h hN; have hcst : ∀ v, a.eval (.const v) = v := (fun _ => rfl); have hfun : ∀ f, a.eval (.func f) = .func (.func f) #[] #[] := (fun _ => rfl); generalize a.eval = ρ at *; go_simp) rfl (show W = W from rfl)
                | 1, ho, hui =>
                  obtain rfl := Option.some.inj (show some _ = some o from ho)
                  have e1 : a.eval (.tmp 1) = .slice (some ⟨ga, oa, none⟩) Lb cb := hN.eval 1 (by kernel_rfl)
                  refine fill_value (v := .slice (some ⟨ga, oa, none⟩) Lb cb) ho rfl (by rfl) (by clear h hN; have hcst : ∀ v, a.eval (.const v) = v := (fun _ => rfl); have hfun : ∀ f, a.eval (.func f) = .func (.func f) #[] #[] := (fun _ => rfl); generalize a.eval = ρ at *; go_simp) rfl (show W = W from rfl)
                | 2, ho, hui =>
                  obtain rfl := Option.some.inj (show some _ = some o from ho)
                  have e10 : a.eval (.tmp 10) = .int .i64 (k : Int) := hN.eval 10 (by kernel_rfl)
                  refine fill_value (v := .int .i64 (k : Int)) ho rfl (by rfl) (by clear h hN; have hcst : ∀ v, a.eval (.const v) = v := (fun _ => rfl); have hfun : ∀ f, a.eval (.func f) = .func (.func f) #[] #[] := (fun _ => rfl); generalize a.eval = ρ at *; go_simp) rfl (show W = W from rfl)
                | 3, ho, hui =>
                  obtain rfl := Option.some.inj (show some _ = some o from ho)
                  have e81 : a.eval (.tmp 81) = .slice (some ⟨ga, oa, none⟩) Lb cb := h ⟨1, .data⟩ (by simp) rfl
                  have e82 : a.eval (.tmp 82) = .int .i64 (k : Int) := h ⟨2, .data⟩ (by simp) rfl
                  refine fill_value (v := .pointer (some ⟨ga, oa + k * 5, none⟩)) ho rfl (by rfl) (by clear h hN; have hcst : ∀ v, a.eval (.const v) = v := (fun _ => rfl); have hfun : ∀ f, a.eval (.func f) = .func (.func f) #[] #[] := (fun _ => rfl); generalize a.eval = ρ at *; go_simp) rfl (show W = W from rfl)
                | 4, ho, hui =>
                  obtain rfl := Option.some.inj (show some _ = some o from ho)
                  have e83 : a.eval (.tmp 83) = .pointer (some ⟨ga, oa + k * 5, none⟩) := h ⟨3, .data⟩ (by simp) rfl
                  refine fill_value (v := .pointer (some ⟨ga, oa + k * 5 + 1, none⟩)) ho rfl (by rfl) (by clear h hN; have hcst : ∀ v, a.eval (.const v) = v := (fun _ => rfl); have hfun : ∀ f, a.eval (.func f) = .func (.func f) #[] #[] := (fun _ => rfl); generalize a.eval = ρ at *; go_simp) rfl (show W = W from rfl)
                | 5, ho, hui =>
                  obtain rfl := Option.some.inj (show some _ = some o from ho)
                  have e84 : a.eval (.tmp 84) = .pointer (some ⟨ga, oa + k * 5 + 1, none⟩) := h ⟨4, .data⟩ (by simp) rfl
                  have hc := hi.2.1
                  refine fill_value (v := .int .i64 nn) ho rfl (by rfl) (by clear h hN; have hcst : ∀ v, a.eval (.const v) = v := (fun _ => rfl); have hfun : ∀ f, a.eval (.func f) = .func (.func f) #[] #[] := (fun _ => rfl); generalize a.eval = ρ at *; go_simp) rfl (show W = W from rfl)
                | 6, ho, hui =>
                  obtain rfl := Option.some.inj (show some _ = some o from ho)
                  have e1 : a.eval (.tmp 1) = .slice (some ⟨ga, oa, none⟩) Lb cb := hN.eval 1 (by kernel_rfl)
                  refine fill_value (v := .slice (some ⟨ga, oa, none⟩) Lb cb) ho rfl (by rfl) (by clear h hN; have hcst : ∀ v, a.eval (.const v) = v := (fun _ => rfl); have hfun : ∀ f, a.eval (.func f) = .func (.func f) #[] #[] := (fun _ => rfl); generalize a.eval = ρ at *; go_simp) rfl (show W = W from rfl)
                | 7, ho, hui =>
                  obtain rfl := Option.some.inj (show some _ = some o from ho)
                  have e10 : a.eval (.tmp 10) = .int .i64 (k : Int) := hN.eval 10 (by kernel_rfl)
                  refine fill_value (v := .int .i64 (k : Int)) ho rfl (by rfl) (by clear h hN; have hcst : ∀ v, a.eval (.const v) = v := (fun _ => rfl); have hfun : ∀ f, a.eval (.func f) = .func (.func f) #[] #[] := (fun _ => rfl); generalize a.eval = ρ at *; go_simp) rfl (show W = W from rfl)
                | 8, ho, hui =>
                  obtain rfl := Option.some.inj (show some _ = some o from ho)
                  have e86 : a.eval (.tmp 86) = .slice (some ⟨ga, oa, none⟩) Lb cb := h ⟨6, .data⟩ (by simp) rfl
                  have e87 : a.eval (.tmp 87) = .int .i64 (k : Int) := h ⟨7, .data⟩ (by simp) rfl
                  refine fill_value (v := .pointer (some ⟨ga, oa + k * 5, none⟩)) ho rfl (by rfl) (by clear h hN; have hcst : ∀ v, a.eval (.const v) = v := (fun _ => rfl); have hfun : ∀ f, a.eval (.func f) = .func (.func f) #[] #[] := (fun _ => rfl); generalize a.eval = ρ at *; go_simp) rfl (show W = W from rfl)
                | 9, ho, hui =>
                  obtain rfl := Option.some.inj (show some _ = some o from ho)
                  have e88 : a.eval (.tmp 88) = .pointer (some ⟨ga, oa + k * 5, none⟩) := h ⟨8, .data⟩ (by simp) rfl
                  refine fill_value (v := .pointer (some ⟨ga, oa + k * 5 + 2, none⟩)) ho rfl (by rfl) (by clear h hN; have hcst : ∀ v, a.eval (.const v) = v := (fun _ => rfl); have hfun : ∀ f, a.eval (.func f) = .func (.func f) #[] #[] := (fun _ => rfl); generalize a.eval = ρ at *; go_simp) rfl (show W = W from rfl)
                | 10, ho, hui =>
                  obtain rfl := Option.some.inj (show some _ = some o from ho)
                  have e89 : a.eval (.tmp 89) = .pointer (some ⟨ga, oa + k * 5 + 2, none⟩) := h ⟨9, .data⟩ (by simp) rfl
                  have hc := hi.2.2.1
                  refine fill_value (v := .int .u8 yy) ho rfl (by rfl) (by clear h hN; have hcst : ∀ v, a.eval (.const v) = v := (fun _ => rfl); have hfun : ∀ f, a.eval (.func f) = .func (.func f) #[] #[] := (fun _ => rfl); generalize a.eval = ρ at *; go_simp) rfl (show W = W from rfl)
                | 11, ho, hui =>
                  obtain rfl := Option.some.inj (show some _ = some o from ho)
                  have e90 : a.eval (.tmp 90) = .int .u8 yy := h ⟨10, .data⟩ (by simp) rfl
                  refine fill_enter (f := 9) (args := #[.int .u8 yy]) ho rfl (by rfl) (by clear h hN; have hcst : ∀ v, a.eval (.const v) = v := (fun _ => rfl); have hfun : ∀ f, a.eval (.func f) = .func (.func f) #[] #[] := (fun _ => rfl); generalize a.eval = ρ at *; go_simp) (HFull.out yy W) ?_
                  rintro e w2 ⟨rfl, hF⟩
                  exact ⟨_, rfl, ⟨_, rfl, sec_of hF, Nat.ne_of_gt hi.2.2.2⟩, hF.below⟩
                | 12, ho, hui =>
                  obtain rfl := Option.some.inj (show some _ = some o from ho)
                  have e80 : a.eval (.tmp 80) = .pointer (some ⟨gc, 0, none⟩) := h ⟨0, .data⟩ (by simp) rfl
                  have e85 : a.eval (.tmp 85) = .int .i64 nn := h ⟨5, .data⟩ (by simp) rfl
                  obtain ⟨gb, e91, p91⟩ : ∃ gb, a.eval (.tmp 91) = .slice (some ⟨gb, 0, none⟩) 512 512 ∧ Sec W gb yy ∧ gb ≠ gc := h ⟨11, .data⟩ (by simp) rfl
                  refine fill_enter (f := 8) (args := #[.pointer (some ⟨gc, 0, none⟩), .int .i64 nn, .slice (some ⟨gb, 0, none⟩) 512 512]) ho rfl (by rfl) (by clear h hN; have hcst : ∀ v, a.eval (.const v) = v := (fun _ => rfl); have hfun : ∀ f, a.eval (.func f) = .func (.func f) #[] #[] := (fun _ => rfl); generalize a.eval = ρ at *; go_simp) (d6_write2 hui (by omega) nn yy gb p91.1 p91.2) ?_
                  rintro e w2 ⟨vv, rfl, h5, h6, h7⟩
                  exact ⟨_, rfl, ⟨vv, rfl, h5⟩, ⟨h6, h7⟩⟩
                | n + 13, ho, hui => exact absurd ho (by simp)
              · intro vals W hi h
                have u0 : vals 0 = .pointer (some ⟨gc, 0, none⟩) := h 0 (by decide)
                have u1 : vals 1 = .slice (some ⟨ga, oa, none⟩) Lb cb := h 1 (by decide)
                have u2 : vals 2 = .int .i64 (k : Int) := h 2 (by decide)
                have u3 : vals 3 = .pointer (some ⟨ga, oa + k * 5, none⟩) := h 3 (by decide)
                have u4 : vals 4 = .pointer (some ⟨ga, oa + k * 5 + 1, none⟩) := h 4 (by decide)
                have u5 : vals 5 = .int .i64 nn := h 5 (by decide)
                have u6 : vals 6 = .slice (some ⟨ga, oa, none⟩) Lb cb := h 6 (by decide)
                have u7 : vals 7 = .int .i64 (k : Int) := h 7 (by decide)
                have u8 : vals 8 = .pointer (some ⟨ga, oa + k * 5, none⟩) := h 8 (by decide)
                have u9 : vals 9 = .pointer (some ⟨ga, oa + k * 5 + 2, none⟩) := h 9 (by decide)
                have u10 : vals 10 = .int .u8 yy := h 10 (by decide)
                obtain ⟨gb, u11, p11⟩ : ∃ gb, vals 11 = .slice (some ⟨gb, 0, none⟩) 512 512 ∧ Sec W gb yy ∧ gb ≠ gc := h 11 (by decide)
                obtain ⟨vv, u12, p12⟩ : ∃ vv, vals 12 = .int .i64 vv ∧ D6 w4.heap.size W gc ls (k + 1) := h 12 (by decide)
                generalize hA : fill _ _ _ _ = A
                have hA2 : (Act.put (Act.put (Act.put (Act.put (Act.put (Act.put (Act.put (Act.put (Act.put (Act.put (Act.put (Act.put (Act.put (_ : Act) (some 80) (vals 0)) (some 81) (vals 1)) (some 82) (vals 2)) (some 83) (vals 3)) (some 84) (vals 4)) (some 85) (vals 5)) (some 86) (vals 6)) (some 87) (vals 7)) (some 88) (vals 8)) (some 89) (vals 9)) (some 90) (vals 10)) (some 91) (vals 11)) (some 92) (vals 12)) = A := hA
                clear hA h V R U
                rw [u0, u1, u2, u3, u4, u5, u6, u7, u8, u9, u10, u11, u12] at hA2
                simp only [fill, Act.put, List.setIfInBounds_toArray, List.set_cons_succ, List.set_cons_zero] at hA2
                subst hA2
                clear u0 u1 u2 u3 u4 u5 u6 u7 u8 u9 u10 u11 u12
                have hn : Hid (D6 w4.heap.size W gc ls (k + 1) ∧ Below w4.heap.size w4 W) := Lib.hid ⟨p12, hi.1⟩
                have c0W : W.cell? ⟨ga, oa + k * 5, none⟩ = some (.int .i64 1) := (HS2.out W hi.1)
                clear p11 p12 hi hI c0 c1 c2
                go_wp2_with fail
                go_roundw
                case rel => exact ⟨k + 1, ls, by go_num, by omega, by omega, hn⟩
                case measure => simp [intOf]; omega
            · have hb1 : (xx == 1) = false := by simpa using hx1
              by_cases hx3 : xx = 3
              · subst hx3
                go_wp2_with fail
                refine (d6_barrier hI.out.1 (by omega)).mono ?_
                rintro e w5 ⟨rfl, ls5, hD5, hB5⟩
                have hn : Hid (D6 w4.heap.size w5 gc ls5 (k + 1) ∧ Below w4.heap.size w4 w5) := Lib.hid ⟨hD5, hI.out.2.trans hB5⟩
                clear hD5 hB5 hI c0 c1 c2
                go_wp2_with fail
                go_roundw
                case rel => exact ⟨k + 1, ls5, by go_num, by omega, by omega, hn⟩
                case measure => simp [intOf]; omega
              · have hb3 : (xx == 3) = false := by simpa using hx3
                have hn : Hid (D6 w4.heap.size wr gc ls (k + 1) ∧ Below w4.heap.size w4 wr) := Lib.hid ⟨d6_mono hI.out.1 (by omega), hI.out.2⟩
                clear hI
                go_wp2_with fail
                go_roundw
                case rel => exact ⟨k + 1, ls, by go_num, by omega, by omega, hn⟩
                case measure => simp [intOf]; omega
          · by_cases hk1 : k < Lb
            · have hk2 : ¬ k < 25 := fun h => hk ⟨hk1, h⟩
              clear hk
              have hwB : Hid (Two w.heap.size w4.heap.size wr g gc ld ls 25) := Lib.hid (two_of hd4.out hI.out.2 hI.out.1)
              have hwb : Hid (Below w.heap.size w wr) := Lib.hid (hb4.out.trans (hI.out.2.mono hb4.out.size))
              clear hI
              go_wp2_with fail
              refine (d6_image (two_first hwB.out)).mono ?_
              rintro e w5 ⟨v5, rfl, hc5, hb5'⟩
              have hT5 := Lib.hid (two_below hwB.out hb5')
              have hb5 := Lib.hid (hwb.out.trans (hb5'.mono hwb.out.size))
              have hq5 := hc5.out w5 (Below.refl _ _)
              clear hb5' hwB hwb hc5
              go_wp2_with fail
              obtain ⟨kc, hc⟩ := two_second hT5.out
              refine (d6_image hc).mono ?_
              clear hc hq5
              rintro e w6 ⟨v6, rfl, hc6, hb6'⟩
              have hT6 := Lib.hid (two_below hT5.out hb6')
              have hb6 := Lib.hid (hb5.out.trans (hb6'.mono hb5.out.size))
              have hq6 := hc6.out w6 (Below.refl _ _)
              clear hb6' hT5 hb5 hc6
              go_wp2_with fail
              refine (HFull.out _ w6).mono ?_
              clear hq6
              rintro e w7 ⟨rfl, hF⟩
              have hT7 := Lib.hid (two_below hT6.out hF.below)
              have hS7 := Lib.hid (sec_of hF)
              have hb7 := Lib.hid (hb6.out.trans (hF.below.mono hb6.out.size))
              have hne7 : Hid (w6.heap.size ≠ g) := Lib.hid (Nat.ne_of_gt (d6_lt (two_first hT6.out)).1)
              clear hF hT6 hb6
              generalize w6.heap.size = b6 at *
              go_wp2_with fail
              refine (two_write hT7.out (by decide) _ b6 hS7.out hne7.out).mono ?_
              rintro e w8 ⟨rfl, hT', hB'⟩
              have hT8 := Lib.hid hT'
              have hb8 := Lib.hid (hb7.out.trans hB')
              clear hT' hB' hT7 hb7 hS7 hne7
              go_wp2_with fail
              refine (two_barrier hT8.out (by decide)).mono ?_
              rintro e w9 ⟨rfl, l9, hT', hB'⟩
              have hT9 := Lib.hid hT'
              have hb9 := Lib.hid (hb8.out.trans hB')
              clear hT' hB' hT8 hb8
              go_wp2_with fail
              obtain ⟨kc, hc⟩ := two_second hT9.out
              refine (d6_image hc).mono ?_
              clear hc
              rintro e w10 ⟨v10, rfl, hc10, hb10'⟩
              have hT10 := Lib.hid (two_below hT9.out hb10')
              have hb10 := Lib.hid (hb9.out.trans (hb10'.mono hb9.out.size))
              have hq10 := hc10.out w10 (Below.refl _ _)
              clear hb10' hT9 hb9 hc10
              go_wp2_with fail
              obtain ⟨kc, hc⟩ := two_second hT10.out
              refine (d6_same hc (two_first hT10.out)).mono ?_
              clear hc hq10
              rintro e w11 ⟨rfl, hb11'⟩
              have hT11 := Lib.hid (two_below hT10.out hb11')
              have hb11 := Lib.hid (hb10.out.trans (hb11'.mono hb10.out.size))
              clear hb11' hT10 hb10
              go_wp2_with fail
              refine (d6_image (two_first hT11.out)).mono ?_
              rintro e w12 ⟨v12, rfl, hc12, hb12'⟩
              have hb12 := Lib.hid (hb11.out.trans (hb12'.mono hb11.out.size))
              have hq12 := hc12.out w12 (Below.refl _ _)
              have hE : ((img ls).toList == (img l9).toList) = decide (ls = l9) := img_eq (two_sz hT11.out).2 (two_sz hT11.out).1
              generalize decide (ls = l9) = bb at *
              clear hb12' hT11 hb11 hc12
              go_wp2_with fail
              go_ret
              exact ⟨by simp, hb12.out⟩
            · clear hk
              have hwB : Hid (Two w.heap.size w4.heap.size wr g gc ld ls 25) := Lib.hid (two_of hd4.out hI.out.2 hI.out.1)
              have hwb : Hid (Below w.heap.size w wr) := Lib.hid (hb4.out.trans (hI.out.2.mono hb4.out.size))
              clear hI
              go_wp2_with fail
              refine (d6_image (two_first hwB.out)).mono ?_
              rintro e w5 ⟨v5, rfl, hc5, hb5'⟩
              have hT5 := Lib.hid (two_below hwB.out hb5')
              have hb5 := Lib.hid (hwb.out.trans (hb5'.mono hwb.out.size))
              have hq5 := hc5.out w5 (Below.refl _ _)
              clear hb5' hwB hwb hc5
              go_wp2_with fail
              obtain ⟨kc, hc⟩ := two_second hT5.out
              refine (d6_image hc).mono ?_
              clear hc hq5
              rintro e w6 ⟨v6, rfl, hc6, hb6'⟩
              have hT6 := Lib.hid (two_below hT5.out hb6')
              have hb6 := Lib.hid (hb5.out.trans (hb6'.mono hb5.out.size))
              have hq6 := hc6.out w6 (Below.refl _ _)
              clear hb6' hT5 hb5 hc6
              go_wp2_with fail
              refine (HFull.out _ w6).mono ?_
              clear hq6
              rintro e w7 ⟨rfl, hF⟩
              have hT7 := Lib.hid (two_below hT6.out hF.below)
              have hS7 := Lib.hid (sec_of hF)
              have hb7 := Lib.hid (hb6.out.trans (hF.below.mono hb6.out.size))
              have hne7 : Hid (w6.heap.size ≠ g) := Lib.hid (Nat.ne_of_gt (d6_lt (two_first hT6.out)).1)
              clear hF hT6 hb6
              generalize w6.heap.size = b6 at *
              go_wp2_with fail
              refine (two_write hT7.out (by decide) _ b6 hS7.out hne7.out).mono ?_
              rintro e w8 ⟨rfl, hT', hB'⟩
              have hT8 := Lib.hid hT'
              have hb8 := Lib.hid (hb7.out.trans hB')
              clear hT' hB' hT7 hb7 hS7 hne7
              go_wp2_with fail
              refine (two_barrier hT8.out (by decide)).mono ?_
              rintro e w9 ⟨rfl, l9, hT', hB'⟩
              have hT9 := Lib.hid hT'
              have hb9 := Lib.hid (hb8.out.trans hB')
              clear hT' hB' hT8 hb8
              go_wp2_with fail
              obtain ⟨kc, hc⟩ := two_second hT9.out
              refine (d6_image hc).mono ?_
              clear hc
              rintro e w10 ⟨v10, rfl, hc10, hb10'⟩
              have hT10 := Lib.hid (two_below hT9.out hb10')
              have hb10 := Lib.hid (hb9.out.trans (hb10'.mono hb9.out.size))
              have hq10 := hc10.out w10 (Below.refl _ _)
              clear hb10' hT9 hb9 hc10
              go_wp2_with fail
              obtain ⟨kc, hc⟩ := two_second hT10.out
              refine (d6_same hc (two_first hT10.out)).mono ?_
              clear hc hq10
              rintro e w11 ⟨rfl, hb11'⟩
              have hT11 := Lib.hid (two_below hT10.out hb11')
              have hb11 := Lib.hid (hb10.out.trans (hb11'.mono hb10.out.size))
              clear hb11' hT10 hb10
              go_wp2_with fail
              refine (d6_image (two_first hT11.out)).mono ?_
              rintro e w12 ⟨v12, rfl, hc12, hb12'⟩
              have hb12 := Lib.hid (hb11.out.trans (hb12'.mono hb11.out.size))
              have hq12 := hc12.out w12 (Below.refl _ _)
              have hE : ((img ls).toList == (img l9).toList) = decide (ls = l9) := img_eq (two_sz hT11.out).2 (two_sz hT11.out).1
              generalize decide (ls = l9) = bb at *
              clear hb12' hT11 hb11 hc12
              go_wp2_with fail
              go_ret
              exact ⟨by simp, hb12.out⟩
      · clear hk
        have hd3 : Hid (D6 w.heap.size wr g ls 25) := Lib.hid (d6_mono hI.out.1 hk25)
        have hb3 := Lib.hid hI.out.2
        clear hI
        go_wp2_with fail
        refine (d6_image hd3.out).mono ?_
        rintro e w4 ⟨v4, rfl, hc4, hb4'⟩
        have hd4 := Lib.hid (d6_below hd3.out hb4')
        have hb4 := Lib.hid (hb3.out.trans (hb4'.mono hb3.out.size))
        have hq4 := hc4.out w4 (Below.refl _ _)
        clear hb4' hd3 hb3 hc4
        go_wp2_with fail
        refine (d6_copy hd4.out).mono ?_
        clear hq4
        rintro e w5 ⟨gc, rfl, hC, hb5'⟩
        have hC5 : Hid (D6 w4.heap.size w5 gc ls 0 ∧ Below w4.heap.size w4 w5) := Lib.hid ⟨hC, hb5'⟩
        obtain ⟨ld, rfl⟩ : ∃ ld, ld = ls := ⟨_, rfl⟩
        clear hC hb5'
        go_wp2_with fail
        go_loopw [10] (fun i wr => ∃ (k : Nat) (ls : List ByteArray), i = .int .i64 (k : Int) ∧ k ≤ 25 ∧ k ≤ Lb ∧ Hid (D6 w4.heap.size wr gc ls k ∧ Below w4.heap.size w4 wr)) (fun i _ => 25 - (intOf i).toNat)
        case atStart => exact ⟨0, _, rfl, by omega, by omega, hC5⟩
        case round =>
          obtain ⟨k, ls, rfl, hk25, hkL, hI⟩ := hrel
          by_cases hk : k < Lb ∧ k < 25
          · obtain ⟨hk1, hk2⟩ := hk
            obtain ⟨ga, oa, e1, c0, c1, c2⟩ := acts_later HB.out (hb4.out.trans (hI.out.2.mono hb4.out.size)) k hk1
            have HS2' := fun (V : World) (hV : Below w4.heap.size w4 V) => acts_later HB.out (hb4.out.trans (hV.mono hb4.out.size)) k hk1
            subst e1
            obtain ⟨xx, hx⟩ : ∃ x, X2 k = x := ⟨_, rfl⟩
            obtain ⟨nn, hn⟩ : ∃ x, N2 k = x := ⟨_, rfl⟩
            obtain ⟨yy, hy⟩ : ∃ x, Y2 k = x := ⟨_, rfl⟩
            rw [hx] at c0
            rw [hn] at c1
            rw [hy] at c2
            have HS2 : Hid (∀ V, Below w4.heap.size w4 V → V.cell? ⟨ga, oa + k * 5, none⟩ = some (.int .i64 xx)) := Lib.hid fun V hV => by
              obtain ⟨ga', oa', e1, q0, _⟩ := HS2' V hV
              cases e1
              rw [← hx]; exact q0
            have hga : ga < w4.heap.size := by
              obtain ⟨ga3, oa3, e3, q0, _⟩ := HB.out k hk1
              cases e3
              exact Nat.lt_of_lt_of_le (World.block_lt_of_cell? w _ q0) hb4.out.size
            clear HS2' hx hn hy
            have i0 : (0 : Int) ≤ (k : Int) := Int.natCast_nonneg k
            have i1 : (k : Int) < (Lb : Int) := by omega
            have i2 : (k : Int) < 25 := by omega
            by_cases hx1 : xx = 1
            · subst hx1
              go_wp2_with fail
              let U : Nat → World → Prop := fun j W => match j with | 0 => True | 1 => True | 2 => True | 3 => True | 4 => True | 5 => True | 6 => True | 7 => True | 8 => True | 9 => True | 10 => True | 11 => True | 12 => D6 w4.heap.size W gc ls k | _ => True
              let R : Nat → World → World → Prop := fun j W W2 => match j with | 0 => W = W2 | 1 => W = W2 | 2 => W = W2 | 3 => W = W2 | 4 => W = W2 | 5 => W = W2 | 6 => W = W2 | 7 => W = W2 | 8 => W = W2 | 9 => W = W2 | 10 => W = W2 | 11 => Below W.heap.size W W2 | 12 => Below w4.heap.size W W2 ∧ ∀ gb x, Sec W gb x → Sec W2 gb x | _ => W = W2
              let V : Nat → Value → World → Prop := fun j v W => match j with | 0 => v = .pointer (some ⟨gc, 0, none⟩) | 1 => v = .slice (some ⟨ga, oa, none⟩) Lb cb | 2 => v = .int .i64 (k : Int) | 3 => v = .pointer (some ⟨ga, oa + k * 5, none⟩) | 4 => v = .pointer (some ⟨ga, oa + k * 5 + 1, none⟩) | 5 => v = .int .i64 nn | 6 => v = .slice (some ⟨ga, oa, none⟩) Lb cb | 7 => v = .int .i64 (k : Int) | 8 => v = .pointer (some ⟨ga, oa + k * 5, none⟩) | 9 => v = .pointer (some ⟨ga, oa + k * 5 + 2, none⟩) | 10 => v = .int .u8 yy | 11 => ∃ gb, v = .slice (some ⟨gb, 0, none⟩) 512 512 ∧ Sec W gb yy ∧ gb ≠ gc | 12 => ∃ vv, v = .int .i64 vv ∧ D6 w4.heap.size W gc ls (k + 1) | _ => True
              refine wp_region_fill2 (by kernel_rfl) U V (fun W => Below w4.heap.size w4 W ∧ W.cell? ⟨ga, oa + k * 5 + 1, none⟩ = some (.int .i64 nn) ∧ W.cell? ⟨ga, oa + k * 5 + 2, none⟩ = some (.int .u8 yy) ∧ gc < W.heap.size) R (by kernel_rfl) (by kernel_rfl) (⟨hI.out.2.trans ((Below.refl _ _).drew), c1, c2, (d6_lt hI.out.1).1⟩) ?_ ?_ ?_ ?_ ?_ ?_
              · intro j
                match j with
                | 0 => exact trivial
                | 1 => exact trivial
                | 2 => exact trivial
                | 3 => exact trivial
                | 4 => exact trivial
                | 5 => exact trivial
                | 6 => exact trivial
                | 7 => exact trivial
                | 8 => exact trivial
                | 9 => exact trivial
                | 10 => exact trivial
                | 11 => exact trivial
                | 12 => exact d6_below hI.out.1 ((Below.refl _ _).drew)
                | n + 13 => exact trivial
              · intro i W W2 hr hi
                match i, hr with
                | 0, hr => exact (show W = W2 from hr) ▸ hi
                | 1, hr => exact (show W = W2 from hr) ▸ hi
                | 2, hr => exact (show W = W2 from hr) ▸ hi
                | 3, hr => exact (show W = W2 from hr) ▸ hi
                | 4, hr => exact (show W = W2 from hr) ▸ hi
                | 5, hr => exact (show W = W2 from hr) ▸ hi
                | 6, hr => exact (show W = W2 from hr) ▸ hi
                | 7, hr => exact (show W = W2 from hr) ▸ hi
                | 8, hr => exact (show W = W2 from hr) ▸ hi
                | 9, hr => exact (show W = W2 from hr) ▸ hi
                | 10, hr => exact (show W = W2 from hr) ▸ hi
                | 11, hr => exact ⟨hi.1.trans (Below.mono hr hi.1.size), (Below.cell hr (World.block_lt_of_cell? _ _ hi.2.1)).trans hi.2.1, (Below.cell hr (World.block_lt_of_cell? _ _ hi.2.2.1)).trans hi.2.2.1, Nat.lt_of_lt_of_le hi.2.2.2 (Below.size hr)⟩
                | 12, hr => exact ⟨hi.1.trans hr.1, (Below.cell hr.1 hga).trans hi.2.1, (Below.cell hr.1 hga).trans hi.2.2.1, Nat.lt_of_lt_of_le hi.2.2.2 (Below.size hr.1)⟩
                | n + 13, hr => exact (show W = W2 from hr) ▸ hi
              · intro i j W W2 hij hi hui hr h
                match i, hij, hui, hr with
                | 0, hij, hui, hr => exact (show W = W2 from hr) ▸ h
                | 1, hij, hui, hr => exact (show W = W2 from hr) ▸ h
                | 2, hij, hui, hr => exact (show W = W2 from hr) ▸ h
                | 3, hij, hui, hr => exact (show W = W2 from hr) ▸ h
                | 4, hij, hui, hr => exact (show W = W2 from hr) ▸ h
                | 5, hij, hui, hr => exact (show W = W2 from hr) ▸ h
                | 6, hij, hui, hr => exact (show W = W2 from hr) ▸ h
                | 7, hij, hui, hr => exact (show W = W2 from hr) ▸ h
                | 8, hij, hui, hr => exact (show W = W2 from hr) ▸ h
                | 9, hij, hui, hr => exact (show W = W2 from hr) ▸ h
                | 10, hij, hui, hr => exact (show W = W2 from hr) ▸ h
                | 11, hij, hui, hr =>
                  match j, hij, h with
                  | 0, hij, h => exact h
                  | 1, hij, h => exact h
                  | 2, hij, h => exact h
                  | 3, hij, h => exact h
                  | 4, hij, h => exact h
                  | 5, hij, h => exact h
                  | 6, hij, h => exact h
                  | 7, hij, h => exact h
                  | 8, hij, h => exact h
                  | 9, hij, h => exact h
                  | 10, hij, h => exact h
                  | 11, hij, h => exact absurd rfl hij
                  | 12, hij, h => exact d6_below h hr
                  | n + 13, hij, h => exact h
                | 12, hij, hui, hr =>
                  match j, hij, h with
                  | 0, hij, h => exact h
                  | 1, hij, h => exact h
                  | 2, hij, h => exact h
                  | 3, hij, h => exact h
                  | 4, hij, h => exact h
                  | 5, hij, h => exact h
                  | 6, hij, h => exact h
                  | 7, hij, h => exact h
                  | 8, hij, h => exact h
                  | 9, hij, h => exact h
                  | 10, hij, h => exact h
                  | 11, hij, h => exact h
                  | 12, hij, h => exact absurd rfl hij
                  | n + 13, hij, h => exact h
                | n + 13, hij, hui, hr => exact (show W = W2 from hr) ▸ h
              · intro i j v W W2 hij hi hui hr h
                match i, hij, hui, hr with
                | 0, hij, hui, hr => exact (show W = W2 from hr) ▸ h
                | 1, hij, hui, hr => exact (show W = W2 from hr) ▸ h
                | 2, hij, hui, hr => exact (show W = W2 from hr) ▸ h
                | 3, hij, hui, hr => exact (show W = W2 from hr) ▸ h
                | 4, hij, hui, hr => exact (show W = W2 from hr) ▸ h
                | 5, hij, hui, hr => exact (show W = W2 from hr) ▸ h
                | 6, hij, hui, hr => exact (show W = W2 from hr) ▸ h
                | 7, hij, hui, hr => exact (show W = W2 from hr) ▸ h
                | 8, hij, hui, hr => exact (show W = W2 from hr) ▸ h
                | 9, hij, hui, hr => exact (show W = W2 from hr) ▸ h
                | 10, hij, hui, hr => exact (show W = W2 from hr) ▸ h
                | 11, hij, hui, hr =>
                  match j, hij, h with
                  | 0, hij, h => exact h
                  | 1, hij, h => exact h
                  | 2, hij, h => exact h
                  | 3, hij, h => exact h
                  | 4, hij, h => exact h
                  | 5, hij, h => exact h
                  | 6, hij, h => exact h
                  | 7, hij, h => exact h
                  | 8, hij, h => exact h
                  | 9, hij, h => exact h
                  | 10, hij, h => exact h
                  | 11, hij, h => exact absurd rfl hij
                  | 12, hij, h => exact (by obtain ⟨vv, h1, h2⟩ := h; exact ⟨vv, h1, d6_below h2 hr⟩)
                  | n + 13, hij, h => exact h
                | 12, hij, hui, hr =>
                  match j, hij, h with
                  | 0, hij, h => exact h
                  | 1, hij, h => exact h
                  | 2, hij, h => exact h
                  | 3, hij, h => exact h
                  | 4, hij, h => exact h
                  | 5, hij, h => exact h
                  | 6, hij, h => exact h
                  | 7, hij, h => exact h
                  | 8, hij, h => exact h
                  | 9, hij, h => exact h
                  | 10, hij, h => exact h
                  | 11, hij, h => exact (by obtain ⟨gb, h1, h2, h3⟩ := h; exact ⟨gb, h1, hr.2 _ _ h2, h3⟩)
                  | 12, hij, h => exact absurd rfl hij
                  | n + 13, hij, h => exact h
                | n + 13, hij, hui, hr => exact (show W = W2 from hr) ▸ h
              · intro i o ho a W hN hi hui h
                match i, ho, hui with
                | 0, ho, hui =>
                  obtain rfl := Option.some.inj (show some _ = some o from ho)
                  have e9 : a.eval (.tmp 9) = .pointer (some ⟨gc, 0, none⟩) := hN.eval 9 (by kernel_rfl)
                  refine fill_value (v := .pointer (some ⟨gc, 0, none⟩)) ho rfl (by rfl) (by clear h hN; have hcst : ∀ v, a.eval (.const v) = v := (fun _ => rfl); have hfun : ∀ f, a.eval (.func f) = .func (.func f) #[] #[] := (fun _ => rfl); generalize a.eval = ρ at *; go_simp) rfl (show W = W from rfl)
                | 1, ho, hui =>
                  obtain rfl := Option.some.inj (show some _ = some o from ho)
                  have e1 : a.eval (.tmp 1) = .slice (some ⟨ga, oa, none⟩) Lb cb := hN.eval 1 (by kernel_rfl)
                  refine fill_value (v := .slice (some ⟨ga, oa, none⟩) Lb cb) ho rfl (by rfl) (by clear h hN; have hcst : ∀ v, a.eval (.const v) = v := (fun _ => rfl); have hfun : ∀ f, a.eval (.func f) = .func (.func f) #[] #[] := (fun _ => rfl); generalize a.eval = ρ at *; go_simp) rfl (show W = W from rfl)
                | 2, ho, hui =>
                  obtain rfl := Option.some.inj (show some _ = some o from ho)
                  have e10 : a.eval (.tmp 10) = .int .i64 (k : Int) := hN.eval 10 (by kernel_rfl)
                  refine fill_value (v := .int .i64 (k : Int)) ho rfl (by rfl) (by clear h hN; have hcst : ∀ v, a.eval (.const v) = v := (fun _ => rfl); have hfun : ∀ f, a.eval (.func f) = .func (.func f) #[] #[] := (fun _ => rfl); generalize a.eval = ρ at *; go_simp) rfl (show W = W from rfl)
                | 3, ho, hui =>
                  obtain rfl := Option.some.inj (show some _ = some o from ho)
                  have e81 : a.eval (.tmp 81) = .slice (some ⟨ga, oa, none⟩) Lb cb := h ⟨1, .data⟩ (by simp) rfl
                  have e82 : a.eval (.tmp 82) = .int .i64 (k : Int) := h ⟨2, .data⟩ (by simp) rfl
                  refine fill_value (v := .pointer (some ⟨ga, oa + k * 5, none⟩)) ho rfl (by rfl) (by clear h hN; have hcst : ∀ v, a.eval (.const v) = v := (fun _ => rfl); have hfun : ∀ f, a.eval (.func f) = .func (.func f) #[] #[] := (fun _ => rfl); generalize a.eval = ρ at *; go_simp) rfl (show W = W from rfl)
                | 4, ho, hui =>
                  obtain rfl := Option.some.inj (show some _ = some o from ho)
                  have e83 : a.eval (.tmp 83) = .pointer (some ⟨ga, oa + k * 5, none⟩) := h ⟨3, .data⟩ (by simp) rfl
                  refine fill_value (v := .pointer (some ⟨ga, oa + k * 5 + 1, none⟩)) ho rfl (by rfl) (by clear h hN; have hcst : ∀ v, a.eval (.const v) = v := (fun _ => rfl); have hfun : ∀ f, a.eval (.func f) = .func (.func f) #[] #[] := (fun _ => rfl); generalize a.eval = ρ at *; go_simp) rfl (show W = W from rfl)
                | 5, ho, hui =>
                  obtain rfl := Option.some.inj (show some _ = some o from ho)
                  have e84 : a.eval (.tmp 84) = .pointer (some ⟨ga, oa + k * 5 + 1, none⟩) := h ⟨4, .data⟩ (by simp) rfl
                  have hc := hi.2.1
                  refine fill_value (v := .int .i64 nn) ho rfl (by rfl) (by clear h hN; have hcst : ∀ v, a.eval (.const v) = v := (fun _ => rfl); have hfun : ∀ f, a.eval (.func f) = .func (.func f) #[] #[] := (fun _ => rfl); generalize a.eval = ρ at *; go_simp) rfl (show W = W from rfl)
                | 6, ho, hui =>
                  obtain rfl := Option.some.inj (show some _ = some o from ho)
                  have e1 : a.eval (.tmp 1) = .slice (some ⟨ga, oa, none⟩) Lb cb := hN.eval 1 (by kernel_rfl)
                  refine fill_value (v := .slice (some ⟨ga, oa, none⟩) Lb cb) ho rfl (by rfl) (by clear h hN; have hcst : ∀ v, a.eval (.const v) = v := (fun _ => rfl); have hfun : ∀ f, a.eval (.func f) = .func (.func f) #[] #[] := (fun _ => rfl); generalize a.eval = ρ at *; go_simp) rfl (show W = W from rfl)
                | 7, ho, hui =>
                  obtain rfl := Option.some.inj (show some _ = some o from ho)
                  have e10 : a.eval (.tmp 10) = .int .i64 (k : Int) := hN.eval 10 (by kernel_rfl)
                  refine fill_value (v := .int .i64 (k : Int)) ho rfl (by rfl) (by clear h hN; have hcst : ∀ v, a.eval (.const v) = v := (fun _ => rfl); have hfun : ∀ f, a.eval (.func f) = .func (.func f) #[] #[] := (fun _ => rfl); generalize a.eval = ρ at *; go_simp) rfl (show W = W from rfl)
                | 8, ho, hui =>
                  obtain rfl := Option.some.inj (show some _ = some o from ho)
                  have e86 : a.eval (.tmp 86) = .slice (some ⟨ga, oa, none⟩) Lb cb := h ⟨6, .data⟩ (by simp) rfl
                  have e87 : a.eval (.tmp 87) = .int .i64 (k : Int) := h ⟨7, .data⟩ (by simp) rfl
                  refine fill_value (v := .pointer (some ⟨ga, oa + k * 5, none⟩)) ho rfl (by rfl) (by clear h hN; have hcst : ∀ v, a.eval (.const v) = v := (fun _ => rfl); have hfun : ∀ f, a.eval (.func f) = .func (.func f) #[] #[] := (fun _ => rfl); generalize a.eval = ρ at *; go_simp) rfl (show W = W from rfl)
                | 9, ho, hui =>
                  obtain rfl := Option.some.inj (show some _ = some o from ho)
                  have e88 : a.eval (.tmp 88) = .pointer (some ⟨ga, oa + k * 5, none⟩) := h ⟨8, .data⟩ (by simp) rfl
                  refine fill_value (v := .pointer (some ⟨ga, oa + k * 5 + 2, none⟩)) ho rfl (by rfl) (by clear h hN; have hcst : ∀ v, a.eval (.const v) = v := (fun _ => rfl); have hfun : ∀ f, a.eval (.func f) = .func (.func f) #[] #[] := (fun _ => rfl); generalize a.eval = ρ at *; go_simp) rfl (show W = W from rfl)
                | 10, ho, hui =>
                  obtain rfl := Option.some.inj (show some _ = some o from ho)
                  have e89 : a.eval (.tmp 89) = .pointer (some ⟨ga, oa + k * 5 + 2, none⟩) := h ⟨9, .data⟩ (by simp) rfl
                  have hc := hi.2.2.1
                  refine fill_value (v := .int .u8 yy) ho rfl (by rfl) (by clear h hN; have hcst : ∀ v, a.eval (.const v) = v := (fun _ => rfl); have hfun : ∀ f, a.eval (.func f) = .func (.func f) #[] #[] := (fun _ => rfl); generalize a.eval = ρ at *; go_simp) rfl (show W = W from rfl)
                | 11, ho, hui =>
                  obtain rfl := Option.some.inj (show some _ = some o from ho)
                  have e90 : a.eval (.tmp 90) = .int .u8 yy := h ⟨10, .data⟩ (by simp) rfl
                  refine fill_enter (f := 9) (args := #[.int .u8 yy]) ho rfl (by rfl) (by clear h hN; have hcst : ∀ v, a.eval (.const v) = v := (fun _ => rfl); have hfun : ∀ f, a.eval (.func f) = .func (.func f) #[] #[] := (fun _ => rfl); generalize a.eval = ρ at *; go_simp) (HFull.out yy W) ?_
                  rintro e w2 ⟨rfl, hF⟩
                  exact ⟨_, rfl, ⟨_, rfl, sec_of hF, Nat.ne_of_gt hi.2.2.2⟩, hF.below⟩
                | 12, ho, hui =>
                  obtain rfl := Option.some.inj (show some _ = some o from ho)
                  have e80 : a.eval (.tmp 80) = .pointer (some ⟨gc, 0, none⟩) := h ⟨0, .data⟩ (by simp) rfl
                  have e85 : a.eval (.tmp 85) = .int .i64 nn := h ⟨5, .data⟩ (by simp) rfl
                  obtain ⟨gb, e91, p91⟩ : ∃ gb, a.eval (.tmp 91) = .slice (some ⟨gb, 0, none⟩) 512 512 ∧ Sec W gb yy ∧ gb ≠ gc := h ⟨11, .data⟩ (by simp) rfl
                  refine fill_enter (f := 8) (args := #[.pointer (some ⟨gc, 0, none⟩), .int .i64 nn, .slice (some ⟨gb, 0, none⟩) 512 512]) ho rfl (by rfl) (by clear h hN; have hcst : ∀ v, a.eval (.const v) = v := (fun _ => rfl); have hfun : ∀ f, a.eval (.func f) = .func (.func f) #[] #[] := (fun _ => rfl); generalize a.eval = ρ at *; go_simp) (d6_write2 hui (by omega) nn yy gb p91.1 p91.2) ?_
                  rintro e w2 ⟨vv, rfl, h5, h6, h7⟩
                  exact ⟨_, rfl, ⟨vv, rfl, h5⟩, ⟨h6, h7⟩⟩
                | n + 13, ho, hui => exact absurd ho (by simp)
              · intro vals W hi h
                have u0 : vals 0 = .pointer (some ⟨gc, 0, none⟩) := h 0 (by decide)
                have u1 : vals 1 = .slice (some ⟨ga, oa, none⟩) Lb cb := h 1 (by decide)
                have u2 : vals 2 = .int .i64 (k : Int) := h 2 (by decide)
                have u3 : vals 3 = .pointer (some ⟨ga, oa + k * 5, none⟩) := h 3 (by decide)
                have u4 : vals 4 = .pointer (some ⟨ga, oa + k * 5 + 1, none⟩) := h 4 (by decide)
                have u5 : vals 5 = .int .i64 nn := h 5 (by decide)
                have u6 : vals 6 = .slice (some ⟨ga, oa, none⟩) Lb cb := h 6 (by decide)
                have u7 : vals 7 = .int .i64 (k : Int) := h 7 (by decide)
                have u8 : vals 8 = .pointer (some ⟨ga, oa + k * 5, none⟩) := h 8 (by decide)
                have u9 : vals 9 = .pointer (some ⟨ga, oa + k * 5 + 2, none⟩) := h 9 (by decide)
                have u10 : vals 10 = .int .u8 yy := h 10 (by decide)
                obtain ⟨gb, u11, p11⟩ : ∃ gb, vals 11 = .slice (some ⟨gb, 0, none⟩) 512 512 ∧ Sec W gb yy ∧ gb ≠ gc := h 11 (by decide)
                obtain ⟨vv, u12, p12⟩ : ∃ vv, vals 12 = .int .i64 vv ∧ D6 w4.heap.size W gc ls (k + 1) := h 12 (by decide)
                generalize hA : fill _ _ _ _ = A
                have hA2 : (Act.put (Act.put (Act.put (Act.put (Act.put (Act.put (Act.put (Act.put (Act.put (Act.put (Act.put (Act.put (Act.put (_ : Act) (some 80) (vals 0)) (some 81) (vals 1)) (some 82) (vals 2)) (some 83) (vals 3)) (some 84) (vals 4)) (some 85) (vals 5)) (some 86) (vals 6)) (some 87) (vals 7)) (some 88) (vals 8)) (some 89) (vals 9)) (some 90) (vals 10)) (some 91) (vals 11)) (some 92) (vals 12)) = A := hA
                clear hA h V R U
                rw [u0, u1, u2, u3, u4, u5, u6, u7, u8, u9, u10, u11, u12] at hA2
                simp only [fill, Act.put, List.setIfInBounds_toArray, List.set_cons_succ, List.set_cons_zero] at hA2
                subst hA2
                clear u0 u1 u2 u3 u4 u5 u6 u7 u8 u9 u10 u11 u12
                have hn : Hid (D6 w4.heap.size W gc ls (k + 1) ∧ Below w4.heap.size w4 W) := Lib.hid ⟨p12, hi.1⟩
                have c0W : W.cell? ⟨ga, oa + k * 5, none⟩ = some (.int .i64 1) := (HS2.out W hi.1)
                clear p11 p12 hi hI c0 c1 c2
                go_wp2_with fail
                go_roundw
                case rel => exact ⟨k + 1, ls, by go_num, by omega, by omega, hn⟩
                case measure => simp [intOf]; omega
            · have hb1 : (xx == 1) = false := by simpa using hx1
              by_cases hx3 : xx = 3
              · subst hx3
                go_wp2_with fail
                refine (d6_barrier hI.out.1 (by omega)).mono ?_
                rintro e w5 ⟨rfl, ls5, hD5, hB5⟩
                have hn : Hid (D6 w4.heap.size w5 gc ls5 (k + 1) ∧ Below w4.heap.size w4 w5) := Lib.hid ⟨hD5, hI.out.2.trans hB5⟩
                clear hD5 hB5 hI c0 c1 c2
                go_wp2_with fail
                go_roundw
                case rel => exact ⟨k + 1, ls5, by go_num, by omega, by omega, hn⟩
                case measure => simp [intOf]; omega
              · have hb3 : (xx == 3) = false := by simpa using hx3
                have hn : Hid (D6 w4.heap.size wr gc ls (k + 1) ∧ Below w4.heap.size w4 wr) := Lib.hid ⟨d6_mono hI.out.1 (by omega), hI.out.2⟩
                clear hI
                go_wp2_with fail
                go_roundw
                case rel => exact ⟨k + 1, ls, by go_num, by omega, by omega, hn⟩
                case measure => simp [intOf]; omega
          · by_cases hk1 : k < Lb
            · have hk2 : ¬ k < 25 := fun h => hk ⟨hk1, h⟩
              clear hk
              have hwB : Hid (Two w.heap.size w4.heap.size wr g gc ld ls 25) := Lib.hid (two_of hd4.out hI.out.2 hI.out.1)
              have hwb : Hid (Below w.heap.size w wr) := Lib.hid (hb4.out.trans (hI.out.2.mono hb4.out.size))
              clear hI
              go_wp2_with fail
              refine (d6_image (two_first hwB.out)).mono ?_
              rintro e w5 ⟨v5, rfl, hc5, hb5'⟩
              have hT5 := Lib.hid (two_below hwB.out hb5')
              have hb5 := Lib.hid (hwb.out.trans (hb5'.mono hwb.out.size))
              have hq5 := hc5.out w5 (Below.refl _ _)
              clear hb5' hwB hwb hc5
              go_wp2_with fail
              obtain ⟨kc, hc⟩ := two_second hT5.out
              refine (d6_image hc).mono ?_
              clear hc hq5
              rintro e w6 ⟨v6, rfl, hc6, hb6'⟩
              have hT6 := Lib.hid (two_below hT5.out hb6')
              have hb6 := Lib.hid (hb5.out.trans (hb6'.mono hb5.out.size))
              have hq6 := hc6.out w6 (Below.refl _ _)
              clear hb6' hT5 hb5 hc6
              go_wp2_with fail
              refine (HFull.out _ w6).mono ?_
              clear hq6
              rintro e w7 ⟨rfl, hF⟩
              have hT7 := Lib.hid (two_below hT6.out hF.below)
              have hS7 := Lib.hid (sec_of hF)
              have hb7 := Lib.hid (hb6.out.trans (hF.below.mono hb6.out.size))
              have hne7 : Hid (w6.heap.size ≠ g) := Lib.hid (Nat.ne_of_gt (d6_lt (two_first hT6.out)).1)
              clear hF hT6 hb6
              generalize w6.heap.size = b6 at *
              go_wp2_with fail
              refine (two_write hT7.out (by decide) _ b6 hS7.out hne7.out).mono ?_
              rintro e w8 ⟨rfl, hT', hB'⟩
              have hT8 := Lib.hid hT'
              have hb8 := Lib.hid (hb7.out.trans hB')
              clear hT' hB' hT7 hb7 hS7 hne7
              go_wp2_with fail
              refine (two_barrier hT8.out (by decide)).mono ?_
              rintro e w9 ⟨rfl, l9, hT', hB'⟩
              have hT9 := Lib.hid hT'
              have hb9 := Lib.hid (hb8.out.trans hB')
              clear hT' hB' hT8 hb8
              go_wp2_with fail
              obtain ⟨kc, hc⟩ := two_second hT9.out
              refine (d6_image hc).mono ?_
              clear hc
              rintro e w10 ⟨v10, rfl, hc10, hb10'⟩
              have hT10 := Lib.hid (two_below hT9.out hb10')
              have hb10 := Lib.hid (hb9.out.trans (hb10'.mono hb9.out.size))
              have hq10 := hc10.out w10 (Below.refl _ _)
              clear hb10' hT9 hb9 hc10
              go_wp2_with fail
              obtain ⟨kc, hc⟩ := two_second hT10.out
              refine (d6_same hc (two_first hT10.out)).mono ?_
              clear hc hq10
              rintro e w11 ⟨rfl, hb11'⟩
              have hT11 := Lib.hid (two_below hT10.out hb11')
              have hb11 := Lib.hid (hb10.out.trans (hb11'.mono hb10.out.size))
              clear hb11' hT10 hb10
              go_wp2_with fail
              refine (d6_image (two_first hT11.out)).mono ?_
              rintro e w12 ⟨v12, rfl, hc12, hb12'⟩
              have hb12 := Lib.hid (hb11.out.trans (hb12'.mono hb11.out.size))
              have hq12 := hc12.out w12 (Below.refl _ _)
              have hE : ((img ls).toList == (img l9).toList) = decide (ls = l9) := img_eq (two_sz hT11.out).2 (two_sz hT11.out).1
              generalize decide (ls = l9) = bb at *
              clear hb12' hT11 hb11 hc12
              go_wp2_with fail
              go_ret
              exact ⟨by simp, hb12.out⟩
            · clear hk
              have hwB : Hid (Two w.heap.size w4.heap.size wr g gc ld ls 25) := Lib.hid (two_of hd4.out hI.out.2 hI.out.1)
              have hwb : Hid (Below w.heap.size w wr) := Lib.hid (hb4.out.trans (hI.out.2.mono hb4.out.size))
              clear hI
              go_wp2_with fail
              refine (d6_image (two_first hwB.out)).mono ?_
              rintro e w5 ⟨v5, rfl, hc5, hb5'⟩
              have hT5 := Lib.hid (two_below hwB.out hb5')
              have hb5 := Lib.hid (hwb.out.trans (hb5'.mono hwb.out.size))
              have hq5 := hc5.out w5 (Below.refl _ _)
              clear hb5' hwB hwb hc5
              go_wp2_with fail
              obtain ⟨kc, hc⟩ := two_second hT5.out
              refine (d6_image hc).mono ?_
              clear hc hq5
              rintro e w6 ⟨v6, rfl, hc6, hb6'⟩
              have hT6 := Lib.hid (two_below hT5.out hb6')
              have hb6 := Lib.hid (hb5.out.trans (hb6'.mono hb5.out.size))
              have hq6 := hc6.out w6 (Below.refl _ _)
              clear hb6' hT5 hb5 hc6
              go_wp2_with fail
              refine (HFull.out _ w6).mono ?_
              clear hq6
              rintro e w7 ⟨rfl, hF⟩
              have hT7 := Lib.hid (two_below hT6.out hF.below)
              have hS7 := Lib.hid (sec_of hF)
              have hb7 := Lib.hid (hb6.out.trans (hF.below.mono hb6.out.size))
              have hne7 : Hid (w6.heap.size ≠ g) := Lib.hid (Nat.ne_of_gt (d6_lt (two_first hT6.out)).1)
              clear hF hT6 hb6
              generalize w6.heap.size = b6 at *
              go_wp2_with fail
              refine (two_write hT7.out (by decide) _ b6 hS7.out hne7.out).mono ?_
              rintro e w8 ⟨rfl, hT', hB'⟩
              have hT8 := Lib.hid hT'
              have hb8 := Lib.hid (hb7.out.trans hB')
              clear hT' hB' hT7 hb7 hS7 hne7
              go_wp2_with fail
              refine (two_barrier hT8.out (by decide)).mono ?_
              rintro e w9 ⟨rfl, l9, hT', hB'⟩
              have hT9 := Lib.hid hT'
              have hb9 := Lib.hid (hb8.out.trans hB')
              clear hT' hB' hT8 hb8
              go_wp2_with fail
              obtain ⟨kc, hc⟩ := two_second hT9.out
              refine (d6_image hc).mono ?_
              clear hc
              rintro e w10 ⟨v10, rfl, hc10, hb10'⟩
              have hT10 := Lib.hid (two_below hT9.out hb10')
              have hb10 := Lib.hid (hb9.out.trans (hb10'.mono hb9.out.size))
              have hq10 := hc10.out w10 (Below.refl _ _)
              clear hb10' hT9 hb9 hc10
              go_wp2_with fail
              obtain ⟨kc, hc⟩ := two_second hT10.out
              refine (d6_same hc (two_first hT10.out)).mono ?_
              clear hc hq10
              rintro e w11 ⟨rfl, hb11'⟩
              have hT11 := Lib.hid (two_below hT10.out hb11')
              have hb11 := Lib.hid (hb10.out.trans (hb11'.mono hb10.out.size))
              clear hb11' hT10 hb10
              go_wp2_with fail
              refine (d6_image (two_first hT11.out)).mono ?_
              rintro e w12 ⟨v12, rfl, hc12, hb12'⟩
              have hb12 := Lib.hid (hb11.out.trans (hb12'.mono hb11.out.size))
              have hq12 := hc12.out w12 (Below.refl _ _)
              have hE : ((img ls).toList == (img l9).toList) = decide (ls = l9) := img_eq (two_sz hT11.out).2 (two_sz hT11.out).1
              generalize decide (ls = l9) = bb at *
              clear hb12' hT11 hb11 hc12
              go_wp2_with fail
              go_ret
              exact ⟨by simp, hb12.out⟩
end Go.Proofs.Ytmojieomdbfjcaa
