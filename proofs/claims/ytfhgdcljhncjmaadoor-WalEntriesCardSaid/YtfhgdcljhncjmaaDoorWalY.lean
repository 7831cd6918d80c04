/- Truncate. -/
import Derived.Test.YtfhgdcljhncjmaaDoorWalX
namespace Go.Proofs.YtfhgdcljhncjmaaDoor
open Go.ChangeShapes Go.WideShapes Go.ChangeAt Go.RowKit
set_option linter.unusedVariables false
set_option maxRecDepth 20000

theorem set_keepi {W : World} {X q : Nat} {cs cs' : Array Value} {t t' : TypeId} {fr fr' : Nat × Nat} (hX : W.heap[X]? = some (.cells cs' t' fr')) (h : W.heap[q]? = some (.cells cs t fr)) (hne : t ≠ t') (i : Nat) (u : Value) : (W.setCell ⟨X, i, none⟩ u).heap[q]? = some (.cells cs t fr) := by
  have hqx : X ≠ q := fun e => by
    rw [e, h] at hX
    cases hX
    exact hne rfl
  unfold World.setCell
  simp only
  rw [Array.getElem?_modify, if_neg hqx]
  exact h
theorem onlyi (W : World) (X i : Nat) (u : Value) : Fk.Only (· = X) W (W.setCell ⟨X, i, none⟩ u) := Fk.only_set (Fk.Only.refl _ W) i u
set_option maxHeartbeats 4000000 in
theorem truncate_any {B : Nat} {w : World} {g L k l : Nat} {s : Dst} {en nx nr ag hd : Int} (h : Da B w g L s k) (hk : k ≤ 40000) (f o : Nat) (hf : f + 2 ≤ L) (ho : o ≤ 1) (hhd : hd = 1 - (o : Int)) (hL : L ≤ 1000) (ha0 : 0 ≤ ag) (ha1 : ag < 4611686018427387904) (hlog : LogAt w l g (f : Int) en nx nr ag hd 0) (hBl : B ≤ l) (hG : 0 < B) (ht : Hid (Fc.Tab w)) (s' : Dst) (ok : Bool) (hr : acts s [some (f + o, sec (headL (ag + 1))), none] = (s', ok)) :
    Calls Tryd.prog 13 #[.pointer (some ⟨l, 0, none⟩)] w fun e w' => ((ok = true ∧ e = .returned (.int .i64 0) ∧ LogAt w' l g (f : Int) en ((f : Int) + 2) 0 (ag + 1) (o : Int) 0) ∨ (ok = false ∧ e = .returned (.int .i64 8) ∧ LogAt w' l g (f : Int) en nx nr ag hd 8)) ∧ Hid (Da B w' g L s' (k + 2)) ∧ Hid (Below B w w') ∧ Hid (KeepE g l w w') := by
  have hB0 := (da_lt h).2.2
  obtain ⟨c0, c1, c2, c3, c4, c5, c6, c7⟩ := log_cells hlog
  have H0 := Lib.hid h
  have HLg := Lib.hid hlog
  obtain ⟨ev, hev⟩ : ∃ ev : Int, (if ok = true then (0 : Int) else 8) = ev := ⟨_, rfl⟩
  obtain ⟨ag1, hag1⟩ : ∃ ag1 : Int, ag + 1 = ag1 := ⟨_, rfl⟩
  obtain ⟨fo, hfo⟩ : ∃ fo : Nat, f + o = fo := ⟨_, rfl⟩
  have hw1 : IntKind.i64.wrap (ag + 1) = ag1 := by rw [IntKind.wrap_i64]; omega
  have hw2 : IntKind.i64.wrap (1 - hd) = (o : Int) := by rw [IntKind.wrap_i64]; omega
  have hw3 : IntKind.i64.wrap ((f : Int) + (o : Int)) = (fo : Int) := by rw [IntKind.wrap_i64]; omega
  have hw4 : IntKind.i64.wrap ((f : Int) + 2) = (f : Int) + 2 := by rw [IntKind.wrap_i64]; omega
  have hmx : ¬ ag = 4611686018427387904 := by omega
  rw [hfo, hag1] at hr
  have hh512 := head_len ag1 (by omega) (by omega)
  have HHd := Lib.hid (fun W (hW : Hid (Fc.Tab W)) => head_any ag1 (by omega) (by omega) W hW)
  have HWl : Hid (∀ V gh, Da B V g L s k → SecRow V gh (headL ag1) → Calls Tryd.prog 35 #[.pointer (some ⟨g, 0, none⟩), .int .i64 (fo : Int), .slice (some ⟨gh, 0, none⟩) 512 512] V fun e w' => e = .returned (.int .i64 ev) ∧ Da B w' g L s' (k + 2) ∧ Below B V w' ∧ KeepT g V w') := Lib.hid fun V gh hV hq => by
    refine (wlA hV (by omega) (fo : Int) fo rfl (by omega) gh _ hq hh512 s' ok hr).mono ?_
    rintro e w' ⟨h1 | h1, h2⟩
    · refine ⟨?_, h2⟩
      rw [h1.2, ← hev, if_pos h1.1]
    · refine ⟨?_, h2⟩
      rw [h1.2, ← hev, h1.1]; rfl
  have HTb := Lib.hid (fun V (hv : Below B w V) => tab_keep hG ht.out hv)
  rw [hag1]
  have HB0 := Lib.hid hB0
  have HBl := Lib.hid hBl
  clear h hlog c0 c1 c2 c3 c4 hr hfo hhd hag1 hh512 hB0 hBl
  go_enter Tryd.func13, Tryd.ntmps13
  go_wp2_with fail
  let U : Nat → World → Prop := fun jX W => match jX with | 0 => True | 1 => True | 2 => True | 3 => True | 4 => True | 5 => True | 6 => True | 7 => True | 8 => True | 9 => True | 10 => True | 11 => True | 12 => True | 13 => True | 14 => True | 15 => True | 16 => True | 17 => Da B W g L s k | 18 => True | 19 => True | 20 => LogAt W l g (f : Int) en nx nr ag hd 0 | _ => True
  let R : Nat → World → World → Prop := fun jX W W2 => match jX with | 0 => W = W2 | 1 => W = W2 | 2 => W = W2 | 3 => W = W2 | 4 => W = W2 | 5 => W = W2 | 6 => W = W2 | 7 => W = W2 | 8 => W = W2 | 9 => W = W2 | 10 => W = W2 | 11 => W = W2 | 12 => W = W2 | 13 => W = W2 | 14 => W = W2 | 15 => W = W2 | 16 => Below W.heap.size W W2 | 17 => Below B W W2 ∧ KeepT g W W2 | 18 => W = W2 | 19 => W = W2 | 20 => W2 = W.setCell ⟨l, 7, none⟩ (.int .i64 ev) ∧ LogAt W l g (f : Int) en nx nr ag hd 0 | _ => W = W2
  let V : Nat → Value → World → Prop := fun jX v W => match jX with | 0 => v = .pointer (some ⟨l, 0, none⟩) | 1 => v = .pointer (some ⟨l, 0, none⟩) | 2 => v = .pointer (some ⟨l, 0, none⟩) | 3 => v = .pointer (some ⟨l, 0, none⟩) | 4 => v = .pointer (some ⟨g, 0, none⟩) | 5 => v = .pointer (some ⟨l, 0, none⟩) | 6 => v = .pointer (some ⟨l, 0, none⟩) | 7 => v = .pointer (some ⟨l, 1, none⟩) | 8 => v = .int .i64 (f : Int) | 9 => v = .int .i64 (o : Int) | 10 => v = .int .i64 (fo : Int) | 11 => v = .pointer (some ⟨l, 0, none⟩) | 12 => v = .pointer (some ⟨l, 0, none⟩) | 13 => v = .pointer (some ⟨l, 5, none⟩) | 14 => v = .int .i64 ag | 15 => v = .int .i64 ag1 | 16 => ∃ gh, v = .slice (some ⟨gh, 0, none⟩) 512 512 ∧ SecRow W gh (headL ag1) | 17 => v = .int .i64 ev ∧ Da B W g L s' (k + 2) | 18 => v = .pointer (some ⟨l, 0, none⟩) | 19 => v = .pointer (some ⟨l, 7, none⟩) | 20 => v = undef ∧ LogAt W l g (f : Int) en nx nr ag hd ev | _ => True
  refine wp_region_fill3 (by kernel_rfl) U V (fun V => (∃ fl, LogAt V l g (f : Int) en nx nr ag hd fl) ∧ Below B w V ∧ KeepE g l w V) R (by kernel_rfl) (by kernel_rfl) (⟨⟨0, log_below HLg.out ((Below.refl _ _).drew)⟩, (Below.refl _ _).drew, KeepE.of_keep (KeepT.of_below (g := g) ((Below.refl _ _).drew))⟩) ?_ ?_ ?_ ?_ ?_ ?_
  · intro jX
    match jX with
    | 0 => exact trivial
    | 1 => exact trivial
    | 2 => exact trivial
    | 3 => exact trivial
    | 4 => exact trivial
    | 5 => exact trivial
    | 6 => exact trivial
    | 7 => exact trivial
    | 8 => exact trivial
    | 9 => exact trivial
    | 10 => exact trivial
    | 11 => exact trivial
    | 12 => exact trivial
    | 13 => exact trivial
    | 14 => exact trivial
    | 15 => exact trivial
    | 16 => exact trivial
    | 17 => exact da_below H0.out ((Below.refl _ _).drew)
    | 18 => exact trivial
    | 19 => exact trivial
    | 20 => exact log_below HLg.out ((Below.refl _ _).drew)
    | nX + 21 => exact trivial
  · intro iX W W2 hr hi
    match iX, hr with
    | 0, hr => exact (show W = W2 from hr) ▸ hi
    | 1, hr => exact (show W = W2 from hr) ▸ hi
    | 2, hr => exact (show W = W2 from hr) ▸ hi
    | 3, hr => exact (show W = W2 from hr) ▸ hi
    | 4, hr => exact (show W = W2 from hr) ▸ hi
    | 5, hr => exact (show W = W2 from hr) ▸ hi
    | 6, hr => exact (show W = W2 from hr) ▸ hi
    | 7, hr => exact (show W = W2 from hr) ▸ hi
    | 8, hr => exact (show W = W2 from hr) ▸ hi
    | 9, hr => exact (show W = W2 from hr) ▸ hi
    | 10, hr => exact (show W = W2 from hr) ▸ hi
    | 11, hr => exact (show W = W2 from hr) ▸ hi
    | 12, hr => exact (show W = W2 from hr) ▸ hi
    | 13, hr => exact (show W = W2 from hr) ▸ hi
    | 14, hr => exact (show W = W2 from hr) ▸ hi
    | 15, hr => exact (show W = W2 from hr) ▸ hi
    | 16, hr => exact ⟨hi.1.elim fun fl hl => ⟨fl, log_below hl hr⟩, hi.2.1.trans (hr.mono (Nat.le_trans HB0.out hi.2.1.size)), hi.2.2.trans (KeepE.of_keep (KeepT.of_below (g := g) hr))⟩
    | 17, hr => exact ⟨hi.1.elim fun fl hl => ⟨fl, log_keep hl hr.2⟩, hi.2.1.trans hr.1, hi.2.2.trans (KeepE.of_keep hr.2)⟩
    | 18, hr => exact (show W = W2 from hr) ▸ hi
    | 19, hr => exact (show W = W2 from hr) ▸ hi
    | 20, hr => exact (by obtain ⟨rfl, hz⟩ := hr; exact ⟨⟨_, log_set7 hz ev⟩, hi.2.1.setCell (p := ⟨l, 7, none⟩) HBl.out _, hi.2.2.trans (keepE_of_only (onlyi W l 7 _))⟩)
    | nX + 21, hr => exact (show W = W2 from hr) ▸ hi
  · intro iX jX W W2 hij hord hi hui hr h
    match iX, hij, hord, hui, hr with
    | 0, hij, hord, hui, hr => exact (show W = W2 from hr) ▸ h
    | 1, hij, hord, hui, hr => exact (show W = W2 from hr) ▸ h
    | 2, hij, hord, hui, hr => exact (show W = W2 from hr) ▸ h
    | 3, hij, hord, hui, hr => exact (show W = W2 from hr) ▸ h
    | 4, hij, hord, hui, hr => exact (show W = W2 from hr) ▸ h
    | 5, hij, hord, hui, hr => exact (show W = W2 from hr) ▸ h
    | 6, hij, hord, hui, hr => exact (show W = W2 from hr) ▸ h
    | 7, hij, hord, hui, hr => exact (show W = W2 from hr) ▸ h
    | 8, hij, hord, hui, hr => exact (show W = W2 from hr) ▸ h
    | 9, hij, hord, hui, hr => exact (show W = W2 from hr) ▸ h
    | 10, hij, hord, hui, hr => exact (show W = W2 from hr) ▸ h
    | 11, hij, hord, hui, hr => exact (show W = W2 from hr) ▸ h
    | 12, hij, hord, hui, hr => exact (show W = W2 from hr) ▸ h
    | 13, hij, hord, hui, hr => exact (show W = W2 from hr) ▸ h
    | 14, hij, hord, hui, hr => exact (show W = W2 from hr) ▸ h
    | 15, hij, hord, hui, hr => exact (show W = W2 from hr) ▸ h
    | 16, hij, hord, hui, hr =>
      match jX, hij, hord, h with
      | 0, hij, hord, h => exact h
      | 1, hij, hord, h => exact h
      | 2, hij, hord, h => exact h
      | 3, hij, hord, h => exact h
      | 4, hij, hord, h => exact h
      | 5, hij, hord, h => exact h
      | 6, hij, hord, h => exact h
      | 7, hij, hord, h => exact h
      | 8, hij, hord, h => exact h
      | 9, hij, hord, h => exact h
      | 10, hij, hord, h => exact h
      | 11, hij, hord, h => exact h
      | 12, hij, hord, h => exact h
      | 13, hij, hord, h => exact h
      | 14, hij, hord, h => exact h
      | 15, hij, hord, h => exact h
      | 16, hij, hord, h => exact absurd rfl hij
      | 17, hij, hord, h => exact da_below h hr
      | 18, hij, hord, h => exact h
      | 19, hij, hord, h => exact h
      | 20, hij, hord, h => exact log_below h hr
      | nX + 21, hij, hord, h => exact h
    | 17, hij, hord, hui, hr =>
      match jX, hij, hord, h with
      | 0, hij, hord, h => exact h
      | 1, hij, hord, h => exact h
      | 2, hij, hord, h => exact h
      | 3, hij, hord, h => exact h
      | 4, hij, hord, h => exact h
      | 5, hij, hord, h => exact h
      | 6, hij, hord, h => exact h
      | 7, hij, hord, h => exact h
      | 8, hij, hord, h => exact h
      | 9, hij, hord, h => exact h
      | 10, hij, hord, h => exact h
      | 11, hij, hord, h => exact h
      | 12, hij, hord, h => exact h
      | 13, hij, hord, h => exact h
      | 14, hij, hord, h => exact h
      | 15, hij, hord, h => exact h
      | 16, hij, hord, h => exact h
      | 17, hij, hord, h => exact absurd rfl hij
      | 18, hij, hord, h => exact h
      | 19, hij, hord, h => exact h
      | 20, hij, hord, h => exact log_keep h hr.2
      | nX + 21, hij, hord, h => exact h
    | 18, hij, hord, hui, hr => exact (show W = W2 from hr) ▸ h
    | 19, hij, hord, hui, hr => exact (show W = W2 from hr) ▸ h
    | 20, hij, hord, hui, hr =>
      match jX, hij, hord, h with
      | 0, hij, hord, h => exact h
      | 1, hij, hord, h => exact h
      | 2, hij, hord, h => exact h
      | 3, hij, hord, h => exact h
      | 4, hij, hord, h => exact h
      | 5, hij, hord, h => exact h
      | 6, hij, hord, h => exact h
      | 7, hij, hord, h => exact h
      | 8, hij, hord, h => exact h
      | 9, hij, hord, h => exact h
      | 10, hij, hord, h => exact h
      | 11, hij, hord, h => exact h
      | 12, hij, hord, h => exact h
      | 13, hij, hord, h => exact h
      | 14, hij, hord, h => exact h
      | 15, hij, hord, h => exact h
      | 16, hij, hord, h => exact h
      | 17, hij, hord, h => exact absurd rfl (hord _ rfl ⟨17, .data⟩ (by simp) rfl)
      | 18, hij, hord, h => exact h
      | 19, hij, hord, h => exact h
      | 20, hij, hord, h => exact absurd rfl hij
      | nX + 21, hij, hord, h => exact h
    | nX + 21, hij, hord, hui, hr => exact (show W = W2 from hr) ▸ h
  · intro iX jX v W W2 hij hi hui hr h
    match iX, hij, hui, hr with
    | 0, hij, hui, hr => exact (show W = W2 from hr) ▸ h
    | 1, hij, hui, hr => exact (show W = W2 from hr) ▸ h
    | 2, hij, hui, hr => exact (show W = W2 from hr) ▸ h
    | 3, hij, hui, hr => exact (show W = W2 from hr) ▸ h
    | 4, hij, hui, hr => exact (show W = W2 from hr) ▸ h
    | 5, hij, hui, hr => exact (show W = W2 from hr) ▸ h
    | 6, hij, hui, hr => exact (show W = W2 from hr) ▸ h
    | 7, hij, hui, hr => exact (show W = W2 from hr) ▸ h
    | 8, hij, hui, hr => exact (show W = W2 from hr) ▸ h
    | 9, hij, hui, hr => exact (show W = W2 from hr) ▸ h
    | 10, hij, hui, hr => exact (show W = W2 from hr) ▸ h
    | 11, hij, hui, hr => exact (show W = W2 from hr) ▸ h
    | 12, hij, hui, hr => exact (show W = W2 from hr) ▸ h
    | 13, hij, hui, hr => exact (show W = W2 from hr) ▸ h
    | 14, hij, hui, hr => exact (show W = W2 from hr) ▸ h
    | 15, hij, hui, hr => exact (show W = W2 from hr) ▸ h
    | 16, hij, hui, hr =>
      match jX, hij, h with
      | 0, hij, h => exact h
      | 1, hij, h => exact h
      | 2, hij, h => exact h
      | 3, hij, h => exact h
      | 4, hij, h => exact h
      | 5, hij, h => exact h
      | 6, hij, h => exact h
      | 7, hij, h => exact h
      | 8, hij, h => exact h
      | 9, hij, h => exact h
      | 10, hij, h => exact h
      | 11, hij, h => exact h
      | 12, hij, h => exact h
      | 13, hij, h => exact h
      | 14, hij, h => exact h
      | 15, hij, h => exact h
      | 16, hij, h => exact absurd rfl hij
      | 17, hij, h => exact ⟨h.1, da_below h.2 hr⟩
      | 18, hij, h => exact h
      | 19, hij, h => exact h
      | 20, hij, h => exact ⟨h.1, log_below h.2 hr⟩
      | nX + 21, hij, h => exact h
    | 17, hij, hui, hr =>
      match jX, hij, h with
      | 0, hij, h => exact h
      | 1, hij, h => exact h
      | 2, hij, h => exact h
      | 3, hij, h => exact h
      | 4, hij, h => exact h
      | 5, hij, h => exact h
      | 6, hij, h => exact h
      | 7, hij, h => exact h
      | 8, hij, h => exact h
      | 9, hij, h => exact h
      | 10, hij, h => exact h
      | 11, hij, h => exact h
      | 12, hij, h => exact h
      | 13, hij, h => exact h
      | 14, hij, h => exact h
      | 15, hij, h => exact h
      | 16, hij, h => exact (by obtain ⟨gh, h1, h2⟩ := h; exact ⟨gh, h1, keep_row h2 hr.2⟩)
      | 17, hij, h => exact absurd rfl hij
      | 18, hij, h => exact h
      | 19, hij, h => exact h
      | 20, hij, h => exact ⟨h.1, log_keep h.2 hr.2⟩
      | nX + 21, hij, h => exact h
    | 18, hij, hui, hr => exact (show W = W2 from hr) ▸ h
    | 19, hij, hui, hr => exact (show W = W2 from hr) ▸ h
    | 20, hij, hui, hr =>
      match jX, hij, h with
      | 0, hij, h => exact h
      | 1, hij, h => exact h
      | 2, hij, h => exact h
      | 3, hij, h => exact h
      | 4, hij, h => exact h
      | 5, hij, h => exact h
      | 6, hij, h => exact h
      | 7, hij, h => exact h
      | 8, hij, h => exact h
      | 9, hij, h => exact h
      | 10, hij, h => exact h
      | 11, hij, h => exact h
      | 12, hij, h => exact h
      | 13, hij, h => exact h
      | 14, hij, h => exact h
      | 15, hij, h => exact h
      | 16, hij, h => exact (by obtain ⟨gh, h1, h2⟩ := h; obtain ⟨rfl, hz⟩ := hr; exact ⟨gh, h1, set_keepi hz h2 (by decide) 7 _⟩)
      | 17, hij, h => exact (by obtain ⟨rfl, hz⟩ := hr; exact ⟨h.1, da_only h.2 (onlyi W l 7 _) ⟨_, _, _, hz, notTL⟩⟩)
      | 18, hij, h => exact h
      | 19, hij, h => exact h
      | 20, hij, h => exact absurd rfl hij
      | nX + 21, hij, h => exact h
    | nX + 21, hij, hui, hr => exact (show W = W2 from hr) ▸ h
  · intro iX o ho a W hN hi hui h
    match iX, ho, hui with
    | 0, ho, hui =>
      obtain rfl := Option.some.inj (show some _ = some o from ho)
      have e0 : a.eval (.tmp 0) = .pointer (some ⟨l, 0, none⟩) := hN.eval 0 (by kernel_rfl)
      refine fill_value (v := .pointer (some ⟨l, 0, none⟩)) ho rfl (by rfl) (by clear h hN; have hcst : ∀ v, a.eval (.const v) = v := (fun _ => rfl); have hfun : ∀ f, a.eval (.func f) = .func (.func f) #[] #[] := (fun _ => rfl); generalize a.eval = ρ at *; go_simp) rfl (show W = W from rfl)
    | 1, ho, hui =>
      obtain rfl := Option.some.inj (show some _ = some o from ho)
      have e0 : a.eval (.tmp 0) = .pointer (some ⟨l, 0, none⟩) := hN.eval 0 (by kernel_rfl)
      refine fill_value (v := .pointer (some ⟨l, 0, none⟩)) ho rfl (by rfl) (by clear h hN; have hcst : ∀ v, a.eval (.const v) = v := (fun _ => rfl); have hfun : ∀ f, a.eval (.func f) = .func (.func f) #[] #[] := (fun _ => rfl); generalize a.eval = ρ at *; go_simp) rfl (show W = W from rfl)
    | 2, ho, hui =>
      obtain rfl := Option.some.inj (show some _ = some o from ho)
      have e29 : a.eval (.tmp 29) = .pointer (some ⟨l, 0, none⟩) := h ⟨1, .data⟩ (by simp) rfl
      refine fill_value (v := .pointer (some ⟨l, 0, none⟩)) ho rfl (by rfl) (by clear h hN; have hcst : ∀ v, a.eval (.const v) = v := (fun _ => rfl); have hfun : ∀ f, a.eval (.func f) = .func (.func f) #[] #[] := (fun _ => rfl); generalize a.eval = ρ at *; go_simp) rfl (show W = W from rfl)
    | 3, ho, hui =>
      obtain rfl := Option.some.inj (show some _ = some o from ho)
      have e30 : a.eval (.tmp 30) = .pointer (some ⟨l, 0, none⟩) := h ⟨2, .data⟩ (by simp) rfl
      refine fill_value (v := .pointer (some ⟨l, 0, none⟩)) ho rfl (by rfl) (by clear h hN; have hcst : ∀ v, a.eval (.const v) = v := (fun _ => rfl); have hfun : ∀ f, a.eval (.func f) = .func (.func f) #[] #[] := (fun _ => rfl); generalize a.eval = ρ at *; go_simp) rfl (show W = W from rfl)
    | 4, ho, hui =>
      obtain rfl := Option.some.inj (show some _ = some o from ho)
      have e31 : a.eval (.tmp 31) = .pointer (some ⟨l, 0, none⟩) := h ⟨3, .data⟩ (by simp) rfl
      obtain ⟨fl, hl⟩ := hi.1
      have hc := (log_cells hl).1
      refine fill_value (v := .pointer (some ⟨g, 0, none⟩)) ho rfl (by rfl) (by clear h hN; have hcst : ∀ v, a.eval (.const v) = v := (fun _ => rfl); have hfun : ∀ f, a.eval (.func f) = .func (.func f) #[] #[] := (fun _ => rfl); generalize a.eval = ρ at *; go_simp) rfl (show W = W from rfl)
    | 5, ho, hui =>
      obtain rfl := Option.some.inj (show some _ = some o from ho)
      have e0 : a.eval (.tmp 0) = .pointer (some ⟨l, 0, none⟩) := hN.eval 0 (by kernel_rfl)
      refine fill_value (v := .pointer (some ⟨l, 0, none⟩)) ho rfl (by rfl) (by clear h hN; have hcst : ∀ v, a.eval (.const v) = v := (fun _ => rfl); have hfun : ∀ f, a.eval (.func f) = .func (.func f) #[] #[] := (fun _ => rfl); generalize a.eval = ρ at *; go_simp) rfl (show W = W from rfl)
    | 6, ho, hui =>
      obtain rfl := Option.some.inj (show some _ = some o from ho)
      have e33 : a.eval (.tmp 33) = .pointer (some ⟨l, 0, none⟩) := h ⟨5, .data⟩ (by simp) rfl
      refine fill_value (v := .pointer (some ⟨l, 0, none⟩)) ho rfl (by rfl) (by clear h hN; have hcst : ∀ v, a.eval (.const v) = v := (fun _ => rfl); have hfun : ∀ f, a.eval (.func f) = .func (.func f) #[] #[] := (fun _ => rfl); generalize a.eval = ρ at *; go_simp) rfl (show W = W from rfl)
    | 7, ho, hui =>
      obtain rfl := Option.some.inj (show some _ = some o from ho)
      have e34 : a.eval (.tmp 34) = .pointer (some ⟨l, 0, none⟩) := h ⟨6, .data⟩ (by simp) rfl
      refine fill_value (v := .pointer (some ⟨l, 1, none⟩)) ho rfl (by rfl) (by clear h hN; have hcst : ∀ v, a.eval (.const v) = v := (fun _ => rfl); have hfun : ∀ f, a.eval (.func f) = .func (.func f) #[] #[] := (fun _ => rfl); generalize a.eval = ρ at *; go_simp) rfl (show W = W from rfl)
    | 8, ho, hui =>
      obtain rfl := Option.some.inj (show some _ = some o from ho)
      have e35 : a.eval (.tmp 35) = .pointer (some ⟨l, 1, none⟩) := h ⟨7, .data⟩ (by simp) rfl
      obtain ⟨fl, hl⟩ := hi.1
      have hc := (log_cells hl).2.1
      refine fill_value (v := .int .i64 (f : Int)) ho rfl (by rfl) (by clear h hN; have hcst : ∀ v, a.eval (.const v) = v := (fun _ => rfl); have hfun : ∀ f, a.eval (.func f) = .func (.func f) #[] #[] := (fun _ => rfl); generalize a.eval = ρ at *; go_simp) rfl (show W = W from rfl)
    | 9, ho, hui =>
      obtain rfl := Option.some.inj (show some _ = some o from ho)
      have e3 : a.eval (.tmp 3) = .int .i64 (o : Int) := hN.eval 3 (by kernel_rfl)
      refine fill_value (v := .int .i64 (o : Int)) ho rfl (by rfl) (by clear h hN; have hcst : ∀ v, a.eval (.const v) = v := (fun _ => rfl); have hfun : ∀ f, a.eval (.func f) = .func (.func f) #[] #[] := (fun _ => rfl); generalize a.eval = ρ at *; go_simp) rfl (show W = W from rfl)
    | 10, ho, hui =>
      obtain rfl := Option.some.inj (show some _ = some o from ho)
      have e36 : a.eval (.tmp 36) = .int .i64 (f : Int) := h ⟨8, .data⟩ (by simp) rfl
      have e37 : a.eval (.tmp 37) = .int .i64 (o : Int) := h ⟨9, .data⟩ (by simp) rfl
      refine fill_value (v := .int .i64 (fo : Int)) ho rfl (by rfl) (by clear h hN; have hcst : ∀ v, a.eval (.const v) = v := (fun _ => rfl); have hfun : ∀ f, a.eval (.func f) = .func (.func f) #[] #[] := (fun _ => rfl); generalize a.eval = ρ at *; go_simp) rfl (show W = W from rfl)
    | 11, ho, hui =>
      obtain rfl := Option.some.inj (show some _ = some o from ho)
      have e0 : a.eval (.tmp 0) = .pointer (some ⟨l, 0, none⟩) := hN.eval 0 (by kernel_rfl)
      refine fill_value (v := .pointer (some ⟨l, 0, none⟩)) ho rfl (by rfl) (by clear h hN; have hcst : ∀ v, a.eval (.const v) = v := (fun _ => rfl); have hfun : ∀ f, a.eval (.func f) = .func (.func f) #[] #[] := (fun _ => rfl); generalize a.eval = ρ at *; go_simp) rfl (show W = W from rfl)
    | 12, ho, hui =>
      obtain rfl := Option.some.inj (show some _ = some o from ho)
      have e39 : a.eval (.tmp 39) = .pointer (some ⟨l, 0, none⟩) := h ⟨11, .data⟩ (by simp) rfl
      refine fill_value (v := .pointer (some ⟨l, 0, none⟩)) ho rfl (by rfl) (by clear h hN; have hcst : ∀ v, a.eval (.const v) = v := (fun _ => rfl); have hfun : ∀ f, a.eval (.func f) = .func (.func f) #[] #[] := (fun _ => rfl); generalize a.eval = ρ at *; go_simp) rfl (show W = W from rfl)
    | 13, ho, hui =>
      obtain rfl := Option.some.inj (show some _ = some o from ho)
      have e40 : a.eval (.tmp 40) = .pointer (some ⟨l, 0, none⟩) := h ⟨12, .data⟩ (by simp) rfl
      refine fill_value (v := .pointer (some ⟨l, 5, none⟩)) ho rfl (by rfl) (by clear h hN; have hcst : ∀ v, a.eval (.const v) = v := (fun _ => rfl); have hfun : ∀ f, a.eval (.func f) = .func (.func f) #[] #[] := (fun _ => rfl); generalize a.eval = ρ at *; go_simp) rfl (show W = W from rfl)
    | 14, ho, hui =>
      obtain rfl := Option.some.inj (show some _ = some o from ho)
      have e41 : a.eval (.tmp 41) = .pointer (some ⟨l, 5, none⟩) := h ⟨13, .data⟩ (by simp) rfl
      obtain ⟨fl, hl⟩ := hi.1
      have hc := (log_cells hl).2.2.2.2.2.1
      refine fill_value (v := .int .i64 ag) ho rfl (by rfl) (by clear h hN; have hcst : ∀ v, a.eval (.const v) = v := (fun _ => rfl); have hfun : ∀ f, a.eval (.func f) = .func (.func f) #[] #[] := (fun _ => rfl); generalize a.eval = ρ at *; go_simp) rfl (show W = W from rfl)
    | 15, ho, hui =>
      obtain rfl := Option.some.inj (show some _ = some o from ho)
      have e42 : a.eval (.tmp 42) = .int .i64 ag := h ⟨14, .data⟩ (by simp) rfl
      refine fill_value (v := .int .i64 ag1) ho rfl (by rfl) (by clear h hN; have hcst : ∀ v, a.eval (.const v) = v := (fun _ => rfl); have hfun : ∀ f, a.eval (.func f) = .func (.func f) #[] #[] := (fun _ => rfl); generalize a.eval = ρ at *; go_simp) rfl (show W = W from rfl)
    | 16, ho, hui =>
      obtain rfl := Option.some.inj (show some _ = some o from ho)
      have e43 : a.eval (.tmp 43) = .int .i64 ag1 := h ⟨15, .data⟩ (by simp) rfl
      refine fill_enter (f := 36) (args := #[.int .i64 ag1]) ho rfl (by rfl) (by clear h hN; have hcst : ∀ v, a.eval (.const v) = v := (fun _ => rfl); have hfun : ∀ f, a.eval (.func f) = .func (.func f) #[] #[] := (fun _ => rfl); generalize a.eval = ρ at *; go_simp) (HHd.out W (Lib.hid (HTb.out W hi.2.1))) ?_
      rintro e w2 ⟨gh, rfl, h4, h5, h6, h7⟩
      exact ⟨_, rfl, ⟨_, rfl, h5⟩, h6⟩
    | 17, ho, hui =>
      obtain rfl := Option.some.inj (show some _ = some o from ho)
      have e32 : a.eval (.tmp 32) = .pointer (some ⟨g, 0, none⟩) := h ⟨4, .data⟩ (by simp) rfl
      have e38 : a.eval (.tmp 38) = .int .i64 (fo : Int) := h ⟨10, .data⟩ (by simp) rfl
      obtain ⟨gh, e44, p44⟩ : ∃ gh, a.eval (.tmp 44) = .slice (some ⟨gh, 0, none⟩) 512 512 ∧ SecRow W gh (headL ag1) := h ⟨16, .data⟩ (by simp) rfl
      refine fill_enter (f := 35) (args := #[.pointer (some ⟨g, 0, none⟩), .int .i64 (fo : Int), .slice (some ⟨gh, 0, none⟩) 512 512]) ho rfl (by rfl) (by clear h hN; have hcst : ∀ v, a.eval (.const v) = v := (fun _ => rfl); have hfun : ∀ f, a.eval (.func f) = .func (.func f) #[] #[] := (fun _ => rfl); generalize a.eval = ρ at *; go_simp) (HWl.out W gh hui p44) ?_
      rintro e w2 ⟨rfl, h5, h6, h7⟩
      exact ⟨_, rfl, ⟨rfl, h5⟩, ⟨h6, h7⟩⟩
    | 18, ho, hui =>
      obtain rfl := Option.some.inj (show some _ = some o from ho)
      have e28 : a.eval (.tmp 28) = .pointer (some ⟨l, 0, none⟩) := h ⟨0, .data⟩ (by simp) rfl
      refine fill_value (v := .pointer (some ⟨l, 0, none⟩)) ho rfl (by rfl) (by clear h hN; have hcst : ∀ v, a.eval (.const v) = v := (fun _ => rfl); have hfun : ∀ f, a.eval (.func f) = .func (.func f) #[] #[] := (fun _ => rfl); generalize a.eval = ρ at *; go_simp) rfl (show W = W from rfl)
    | 19, ho, hui =>
      obtain rfl := Option.some.inj (show some _ = some o from ho)
      have e46 : a.eval (.tmp 46) = .pointer (some ⟨l, 0, none⟩) := h ⟨18, .data⟩ (by simp) rfl
      refine fill_value (v := .pointer (some ⟨l, 7, none⟩)) ho rfl (by rfl) (by clear h hN; have hcst : ∀ v, a.eval (.const v) = v := (fun _ => rfl); have hfun : ∀ f, a.eval (.func f) = .func (.func f) #[] #[] := (fun _ => rfl); generalize a.eval = ρ at *; go_simp) rfl (show W = W from rfl)
    | 20, ho, hui =>
      obtain rfl := Option.some.inj (show some _ = some o from ho)
      have e47 : a.eval (.tmp 47) = .pointer (some ⟨l, 7, none⟩) := h ⟨19, .data⟩ (by simp) rfl
      obtain ⟨e45, p45⟩ : a.eval (.tmp 45) = .int .i64 ev ∧ Da B W g L s' (k + 2) := h ⟨17, .data⟩ (by simp) rfl
      have hc := (log_cells hui).2.2.2.2.2.2.2
      have hfr := log_free hui 7
      refine fill_done (w' := W.setCell ⟨l, 7, none⟩ (.int .i64 ev)) ho rfl (by rfl) (by clear h hN; have hcst : ∀ v, a.eval (.const v) = v := (fun _ => rfl); have hfun : ∀ f, a.eval (.func f) = .func (.func f) #[] #[] := (fun _ => rfl); generalize a.eval = ρ at *; go_simp) ⟨rfl, log_set7 hui _⟩ (⟨rfl, hui⟩)
    | nX + 21, ho, hui => exact absurd ho (by simp)
  · intro vals W hi h
    have u0 : vals 0 = .pointer (some ⟨l, 0, none⟩) := h 0 (by decide)
    have u1 : vals 1 = .pointer (some ⟨l, 0, none⟩) := h 1 (by decide)
    have u2 : vals 2 = .pointer (some ⟨l, 0, none⟩) := h 2 (by decide)
    have u3 : vals 3 = .pointer (some ⟨l, 0, none⟩) := h 3 (by decide)
    have u4 : vals 4 = .pointer (some ⟨g, 0, none⟩) := h 4 (by decide)
    have u5 : vals 5 = .pointer (some ⟨l, 0, none⟩) := h 5 (by decide)
    have u6 : vals 6 = .pointer (some ⟨l, 0, none⟩) := h 6 (by decide)
    have u7 : vals 7 = .pointer (some ⟨l, 1, none⟩) := h 7 (by decide)
    have u8 : vals 8 = .int .i64 (f : Int) := h 8 (by decide)
    have u9 : vals 9 = .int .i64 (o : Int) := h 9 (by decide)
    have u10 : vals 10 = .int .i64 (fo : Int) := h 10 (by decide)
    have u11 : vals 11 = .pointer (some ⟨l, 0, none⟩) := h 11 (by decide)
    have u12 : vals 12 = .pointer (some ⟨l, 0, none⟩) := h 12 (by decide)
    have u13 : vals 13 = .pointer (some ⟨l, 5, none⟩) := h 13 (by decide)
    have u14 : vals 14 = .int .i64 ag := h 14 (by decide)
    have u15 : vals 15 = .int .i64 ag1 := h 15 (by decide)
    obtain ⟨gh, u16, p16⟩ : ∃ gh, vals 16 = .slice (some ⟨gh, 0, none⟩) 512 512 ∧ SecRow W gh (headL ag1) := h 16 (by decide)
    obtain ⟨u17, p17⟩ : vals 17 = .int .i64 ev ∧ Da B W g L s' (k + 2) := h 17 (by decide)
    have u18 : vals 18 = .pointer (some ⟨l, 0, none⟩) := h 18 (by decide)
    have u19 : vals 19 = .pointer (some ⟨l, 7, none⟩) := h 19 (by decide)
    obtain ⟨u20, p20⟩ : vals 20 = undef ∧ LogAt W l g (f : Int) en nx nr ag hd ev := h 20 (by decide)
    generalize hA : fill _ _ _ _ = A
    have hA2 : (Act.put (Act.put (Act.put (Act.put (Act.put (Act.put (Act.put (Act.put (Act.put (Act.put (Act.put (Act.put (Act.put (Act.put (Act.put (Act.put (Act.put (Act.put (Act.put (Act.put (Act.put (_ : Act) (some 28) (vals 0)) (some 29) (vals 1)) (some 30) (vals 2)) (some 31) (vals 3)) (some 32) (vals 4)) (some 33) (vals 5)) (some 34) (vals 6)) (some 35) (vals 7)) (some 36) (vals 8)) (some 37) (vals 9)) (some 38) (vals 10)) (some 39) (vals 11)) (some 40) (vals 12)) (some 41) (vals 13)) (some 42) (vals 14)) (some 43) (vals 15)) (some 44) (vals 16)) (some 45) (vals 17)) (some 46) (vals 18)) (some 47) (vals 19)) none (vals 20)) = A := hA
    clear hA h V R U
    rw [u0, u1, u2, u3, u4, u5, u6, u7, u8, u9, u10, u11, u12, u13, u14, u15, u16, u17, u18, u19, u20] at hA2
    simp only [fill, Act.put, List.setIfInBounds_toArray, List.set_cons_succ, List.set_cons_zero] at hA2
    subst hA2
    clear u0 u1 u2 u3 u4 u5 u6 u7 u8 u9 u10 u11 u12 u13 u14 u15 u16 u17 u18 u19 u20
    have HDq := Lib.hid p17
    have hl2 := Lib.hid p20
    have HB2 := Lib.hid hi.2.1
    have HK2 := Lib.hid hi.2.2
    clear p16 p17 p20 hi HHd HWl HTb
    obtain ⟨w2, hw2⟩ : ∃ x, x = W := ⟨_, rfl⟩
    subst hw2
    have c7B := (log_cells hl2.out).2.2.2.2.2.2.2
    have c5B := (log_cells hl2.out).2.2.2.2.2.1
    have c1B := (log_cells hl2.out).2.1
    have f5 := log_free hl2.out 5
    have f6 := log_free hl2.out 6
    have f3 := log_free hl2.out 3
    have f4 := log_free hl2.out 4
    have d6 := (log_cells hl2.out).2.2.2.2.2.2.1
    have d3 := (log_cells hl2.out).2.2.2.1
    have d4 := (log_cells hl2.out).2.2.2.2.1
    clear c5 c6 c7
    cases ok with
    | true =>
      obtain rfl : (0 : Int) = ev := hev
      go_wp2_with fail
      go_ret
      have hl3 := log_set4 (log_set3 (log_set6 (log_set5 hl2.out ag1) (o : Int)) ((f : Int) + 2)) 0
      have hon := Fk.only_set (Fk.only_set (Fk.only_set (Fk.only_set (Fk.Only.refl (· = l) w2) 5 (.int .i64 ag1)) 6 (.int .i64 (o : Int))) 3 (.int .i64 ((f : Int) + 2))) 4 (.int .i64 0)
      exact ⟨by first | exact .inl ⟨rfl, rfl, hl3⟩ | exact ⟨rfl, hl3⟩ | exact .inl ⟨rfl, hl3⟩, Lib.hid (da_only HDq.out hon ⟨_, _, _, hl2.out, notTL⟩), Lib.hid (HB2.out.trans (hon.below (fun q e => by rw [e]; exact HBl.out) (Nat.le_trans HB0.out HB2.out.size))), Lib.hid (HK2.out.trans (keepE_of_only hon))⟩
    | false =>
      obtain rfl : (8 : Int) = ev := hev
      go_wp2_with fail
      go_ret
      exact ⟨by first | exact .inr ⟨rfl, rfl, hl2.out⟩ | exact ⟨rfl, hl2.out⟩ | exact .inr ⟨rfl, hl2.out⟩, HDq, HB2, HK2⟩
end Go.Proofs.YtfhgdcljhncjmaaDoor
