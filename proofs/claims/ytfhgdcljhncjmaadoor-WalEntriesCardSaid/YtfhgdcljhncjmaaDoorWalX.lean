/- Append. -/
import Derived.Test.YtfhgdcljhncjmaaDoorWalW
namespace Go.Proofs.YtfhgdcljhncjmaaDoor
open Go.ChangeShapes Go.WideShapes Go.ChangeAt Go.RowKit
set_option linter.unusedVariables false
set_option maxRecDepth 20000

theorem keepE_of_only {g X : Nat} {w w' : World} (h : Fk.Only (· = X) w w') : KeepE g X w w' := ⟨fun q o hx hq _ => by
  rw [h.block q (Array.getElem?_eq_some_iff.1 hq).1 hx]; exact hq, fun hg q cs fr hx hq hf => ⟨by
  rw [h.block q (Array.getElem?_eq_some_iff.1 hq).1 hx]; exact hq, hf.same fun _ _ h2 => h.block g (Array.getElem?_eq_some_iff.1 h2).1 hg⟩⟩
theorem need_parts (n : Nat) : need n = 1 + nparts n := rfl
/-- a record that there is no room for -/
theorem append_full {w : World} {g l : Nat} {fs nr ag hd fl : Int} (p en : Nat) (hpe : p ≤ en) (hen : en ≤ 1000) (len cap : Nat) (sp : Option Addr) (hlen : len ≤ 100000) (hlog : LogAt w l g fs (en : Int) (p : Int) nr ag hd fl) (hneed : en < p + need len) :
    Calls Tryd.prog 12 #[.pointer (some ⟨l, 0, none⟩), .slice sp len cap] w fun e w' => e = .returned (.int .i64 7) ∧ Below w.heap.size w w' := by
  have HS := Lib.hid (fun W => sectors_any len (by omega) W)
  obtain ⟨c0, c1, c2, c3, c4, c5, c6, c7⟩ := log_cells hlog
  obtain ⟨nd, hnd⟩ : ∃ nd, need len = nd := ⟨_, rfl⟩
  rw [hnd] at HS hneed
  have hw1 : IntKind.i64.wrap ((en : Int) - (p : Int)) = (en : Int) - (p : Int) := by rw [IntKind.wrap_i64]; omega
  have hlt : (en : Int) - (p : Int) < (nd : Int) := by omega
  have HC2 := Lib.hid (fun W (hb : Below w.heap.size w W) => (log_cells (log_below hlog hb)).2.2.1)
  have HC3 := Lib.hid (fun W (hb : Below w.heap.size w W) => (log_cells (log_below hlog hb)).2.2.2.1)
  have hln : ¬ ((16777216 : Int) < (len : Int)) := by omega
  clear hlog c0 c1 c4 c5 c6 hnd hneed
  go_enter Tryd.func12, Tryd.ntmps12
  go_wp2_with fail
  let R : World → World → Prop := fun W W2 => Below W.heap.size W W2
  let V : Nat → Value → World → Prop := fun jX v W => match jX with | 0 => v = .slice sp len cap | 1 => v = .int .i64 (len : Int) | 2 => v = .int .i64 (nd : Int) | 3 => v = .pointer (some ⟨l, 0, none⟩) | 4 => v = .pointer (some ⟨l, 0, none⟩) | 5 => v = .pointer (some ⟨l, 2, none⟩) | 6 => v = .int .i64 (en : Int) | 7 => v = .pointer (some ⟨l, 0, none⟩) | 8 => v = .pointer (some ⟨l, 0, none⟩) | 9 => v = .pointer (some ⟨l, 3, none⟩) | 10 => v = .int .i64 (p : Int) | 11 => v = .int .i64 ((en : Int) - (p : Int)) | 12 => v = .bool true | 13 => v = .bool true | _ => True
  refine wp_region_fill (by kernel_rfl) V (fun W => Below w.heap.size w W) R (by kernel_rfl) (by kernel_rfl) ((Below.refl _ _).drew) (fun W W2 hr hi => hi.trans (hr.mono hi.size)) ?_ ?_ ?_
  · intro jX v W W2 hr h
    match jX, h with
    | 0, h => exact h
    | 1, h => exact h
    | 2, h => exact h
    | 3, h => exact h
    | 4, h => exact h
    | 5, h => exact h
    | 6, h => exact h
    | 7, h => exact h
    | 8, h => exact h
    | 9, h => exact h
    | 10, h => exact h
    | 11, h => exact h
    | 12, h => exact h
    | 13, h => exact h
    | nX + 14, h => exact h
  · intro iX o ho a W hN hi h
    match iX, ho with
    | 0, ho =>
      obtain rfl := Option.some.inj (show some _ = some o from ho)
      have e1 : a.eval (.tmp 1) = .slice sp len cap := hN.eval 1 (by kernel_rfl)
      refine fill_value (v := .slice sp len cap) ho rfl (by rfl) (by clear h hN; have hcst : ∀ v, a.eval (.const v) = v := (fun _ => rfl); have hfun : ∀ f, a.eval (.func f) = .func (.func f) #[] #[] := (fun _ => rfl); generalize a.eval = ρ at *; go_simp) rfl (Below.refl _ _)
    | 1, ho =>
      obtain rfl := Option.some.inj (show some _ = some o from ho)
      have e13 : a.eval (.tmp 13) = .slice sp len cap := h ⟨0, .data⟩ (by simp) rfl
      refine fill_value (v := .int .i64 (len : Int)) ho rfl (by rfl) (by clear h hN; have hcst : ∀ v, a.eval (.const v) = v := (fun _ => rfl); have hfun : ∀ f, a.eval (.func f) = .func (.func f) #[] #[] := (fun _ => rfl); generalize a.eval = ρ at *; go_simp) rfl (Below.refl _ _)
    | 2, ho =>
      obtain rfl := Option.some.inj (show some _ = some o from ho)
      have e14 : a.eval (.tmp 14) = .int .i64 (len : Int) := h ⟨1, .data⟩ (by simp) rfl
      refine fill_enter (f := 32) (args := #[.int .i64 (len : Int)]) ho rfl (by rfl) (by clear h hN; have hcst : ∀ v, a.eval (.const v) = v := (fun _ => rfl); have hfun : ∀ f, a.eval (.func f) = .func (.func f) #[] #[] := (fun _ => rfl); generalize a.eval = ρ at *; go_simp) (HS.out W) ?_
      rintro e w2 ⟨rfl, rfl⟩
      exact ⟨_, rfl, rfl, Below.refl _ _⟩
    | 3, ho =>
      obtain rfl := Option.some.inj (show some _ = some o from ho)
      have e0 : a.eval (.tmp 0) = .pointer (some ⟨l, 0, none⟩) := hN.eval 0 (by kernel_rfl)
      refine fill_value (v := .pointer (some ⟨l, 0, none⟩)) ho rfl (by rfl) (by clear h hN; have hcst : ∀ v, a.eval (.const v) = v := (fun _ => rfl); have hfun : ∀ f, a.eval (.func f) = .func (.func f) #[] #[] := (fun _ => rfl); generalize a.eval = ρ at *; go_simp) rfl (Below.refl _ _)
    | 4, ho =>
      obtain rfl := Option.some.inj (show some _ = some o from ho)
      have e16 : a.eval (.tmp 16) = .pointer (some ⟨l, 0, none⟩) := h ⟨3, .data⟩ (by simp) rfl
      refine fill_value (v := .pointer (some ⟨l, 0, none⟩)) ho rfl (by rfl) (by clear h hN; have hcst : ∀ v, a.eval (.const v) = v := (fun _ => rfl); have hfun : ∀ f, a.eval (.func f) = .func (.func f) #[] #[] := (fun _ => rfl); generalize a.eval = ρ at *; go_simp) rfl (Below.refl _ _)
    | 5, ho =>
      obtain rfl := Option.some.inj (show some _ = some o from ho)
      have e17 : a.eval (.tmp 17) = .pointer (some ⟨l, 0, none⟩) := h ⟨4, .data⟩ (by simp) rfl
      refine fill_value (v := .pointer (some ⟨l, 2, none⟩)) ho rfl (by rfl) (by clear h hN; have hcst : ∀ v, a.eval (.const v) = v := (fun _ => rfl); have hfun : ∀ f, a.eval (.func f) = .func (.func f) #[] #[] := (fun _ => rfl); generalize a.eval = ρ at *; go_simp) rfl (Below.refl _ _)
    | 6, ho =>
      obtain rfl := Option.some.inj (show some _ = some o from ho)
      have e18 : a.eval (.tmp 18) = .pointer (some ⟨l, 2, none⟩) := h ⟨5, .data⟩ (by simp) rfl
      have hc := HC2.out W hi
      refine fill_value (v := .int .i64 (en : Int)) ho rfl (by rfl) (by clear h hN; have hcst : ∀ v, a.eval (.const v) = v := (fun _ => rfl); have hfun : ∀ f, a.eval (.func f) = .func (.func f) #[] #[] := (fun _ => rfl); generalize a.eval = ρ at *; go_simp) rfl (Below.refl _ _)
    | 7, ho =>
      obtain rfl := Option.some.inj (show some _ = some o from ho)
      have e0 : a.eval (.tmp 0) = .pointer (some ⟨l, 0, none⟩) := hN.eval 0 (by kernel_rfl)
      refine fill_value (v := .pointer (some ⟨l, 0, none⟩)) ho rfl (by rfl) (by clear h hN; have hcst : ∀ v, a.eval (.const v) = v := (fun _ => rfl); have hfun : ∀ f, a.eval (.func f) = .func (.func f) #[] #[] := (fun _ => rfl); generalize a.eval = ρ at *; go_simp) rfl (Below.refl _ _)
    | 8, ho =>
      obtain rfl := Option.some.inj (show some _ = some o from ho)
      have e20 : a.eval (.tmp 20) = .pointer (some ⟨l, 0, none⟩) := h ⟨7, .data⟩ (by simp) rfl
      refine fill_value (v := .pointer (some ⟨l, 0, none⟩)) ho rfl (by rfl) (by clear h hN; have hcst : ∀ v, a.eval (.const v) = v := (fun _ => rfl); have hfun : ∀ f, a.eval (.func f) = .func (.func f) #[] #[] := (fun _ => rfl); generalize a.eval = ρ at *; go_simp) rfl (Below.refl _ _)
    | 9, ho =>
      obtain rfl := Option.some.inj (show some _ = some o from ho)
      have e21 : a.eval (.tmp 21) = .pointer (some ⟨l, 0, none⟩) := h ⟨8, .data⟩ (by simp) rfl
      refine fill_value (v := .pointer (some ⟨l, 3, none⟩)) ho rfl (by rfl) (by clear h hN; have hcst : ∀ v, a.eval (.const v) = v := (fun _ => rfl); have hfun : ∀ f, a.eval (.func f) = .func (.func f) #[] #[] := (fun _ => rfl); generalize a.eval = ρ at *; go_simp) rfl (Below.refl _ _)
    | 10, ho =>
      obtain rfl := Option.some.inj (show some _ = some o from ho)
      have e22 : a.eval (.tmp 22) = .pointer (some ⟨l, 3, none⟩) := h ⟨9, .data⟩ (by simp) rfl
      have hc := HC3.out W hi
      refine fill_value (v := .int .i64 (p : Int)) ho rfl (by rfl) (by clear h hN; have hcst : ∀ v, a.eval (.const v) = v := (fun _ => rfl); have hfun : ∀ f, a.eval (.func f) = .func (.func f) #[] #[] := (fun _ => rfl); generalize a.eval = ρ at *; go_simp) rfl (Below.refl _ _)
    | 11, ho =>
      obtain rfl := Option.some.inj (show some _ = some o from ho)
      have e19 : a.eval (.tmp 19) = .int .i64 (en : Int) := h ⟨6, .data⟩ (by simp) rfl
      have e23 : a.eval (.tmp 23) = .int .i64 (p : Int) := h ⟨10, .data⟩ (by simp) rfl
      refine fill_value (v := .int .i64 ((en : Int) - (p : Int))) ho rfl (by rfl) (by clear h hN; have hcst : ∀ v, a.eval (.const v) = v := (fun _ => rfl); have hfun : ∀ f, a.eval (.func f) = .func (.func f) #[] #[] := (fun _ => rfl); generalize a.eval = ρ at *; go_simp) rfl (Below.refl _ _)
    | 12, ho =>
      obtain rfl := Option.some.inj (show some _ = some o from ho)
      have e15 : a.eval (.tmp 15) = .int .i64 (nd : Int) := h ⟨2, .data⟩ (by simp) rfl
      have e24 : a.eval (.tmp 24) = .int .i64 ((en : Int) - (p : Int)) := h ⟨11, .data⟩ (by simp) rfl
      refine fill_value (v := .bool true) ho rfl (by rfl) (by clear h hN; have hcst : ∀ v, a.eval (.const v) = v := (fun _ => rfl); have hfun : ∀ f, a.eval (.func f) = .func (.func f) #[] #[] := (fun _ => rfl); generalize a.eval = ρ at *; go_simp) rfl (Below.refl _ _)
    | 13, ho =>
      obtain rfl := Option.some.inj (show some _ = some o from ho)
      have e25 : a.eval (.tmp 25) = .bool true := h ⟨12, .data⟩ (by simp) rfl
      refine fill_value (v := .bool true) ho rfl (by rfl) (by clear h hN; have hcst : ∀ v, a.eval (.const v) = v := (fun _ => rfl); have hfun : ∀ f, a.eval (.func f) = .func (.func f) #[] #[] := (fun _ => rfl); generalize a.eval = ρ at *; go_simp) rfl (Below.refl _ _)
    | nX + 14, ho => exact absurd ho (by simp)
  · intro vals W hi h
    have u0 : vals 0 = .slice sp len cap := h 0 (by decide)
    have u1 : vals 1 = .int .i64 (len : Int) := h 1 (by decide)
    have u2 : vals 2 = .int .i64 (nd : Int) := h 2 (by decide)
    have u3 : vals 3 = .pointer (some ⟨l, 0, none⟩) := h 3 (by decide)
    have u4 : vals 4 = .pointer (some ⟨l, 0, none⟩) := h 4 (by decide)
    have u5 : vals 5 = .pointer (some ⟨l, 2, none⟩) := h 5 (by decide)
    have u6 : vals 6 = .int .i64 (en : Int) := h 6 (by decide)
    have u7 : vals 7 = .pointer (some ⟨l, 0, none⟩) := h 7 (by decide)
    have u8 : vals 8 = .pointer (some ⟨l, 0, none⟩) := h 8 (by decide)
    have u9 : vals 9 = .pointer (some ⟨l, 3, none⟩) := h 9 (by decide)
    have u10 : vals 10 = .int .i64 (p : Int) := h 10 (by decide)
    have u11 : vals 11 = .int .i64 ((en : Int) - (p : Int)) := h 11 (by decide)
    have u12 : vals 12 = .bool true := h 12 (by decide)
    have u13 : vals 13 = .bool true := h 13 (by decide)
    generalize hA : fill _ _ _ _ = A
    have hA2 : (Act.put (Act.put (Act.put (Act.put (Act.put (Act.put (Act.put (Act.put (Act.put (Act.put (Act.put (Act.put (Act.put (Act.put (_ : Act) (some 13) (vals 0)) (some 14) (vals 1)) (some 15) (vals 2)) (some 16) (vals 3)) (some 17) (vals 4)) (some 18) (vals 5)) (some 19) (vals 6)) (some 20) (vals 7)) (some 21) (vals 8)) (some 22) (vals 9)) (some 23) (vals 10)) (some 24) (vals 11)) (some 25) (vals 12)) (some 12) (vals 13)) = A := hA
    clear hA h V R
    rw [u0, u1, u2, u3, u4, u5, u6, u7, u8, u9, u10, u11, u12, u13] at hA2
    simp only [fill, Act.put, List.setIfInBounds_toArray, List.set_cons_succ, List.set_cons_zero] at hA2
    subst hA2
    clear u0 u1 u2 u3 u4 u5 u6 u7 u8 u9 u10 u11 u12 u13
    clear HC2 HC3
    go_wp2_with fail
    go_ret
    exact ⟨rfl, hi⟩
set_option maxHeartbeats 2000000 in
theorem append_any {B : Nat} {w : World} {g L k l : Nat} {s : Dst} {fs nr ag hd : Int} (h : Da B w g L s k) (hk : k ≤ 40000) (p en : Nat) (hen : en ≤ L) (hL : L ≤ 190) (b : List Nat) (len cap : Nat) (sp : Option Addr) (hbl : b.length = len) (hbb : ∀ x ∈ b, x < 256) (hlen : len ≤ 100000) (hlc : len ≤ cap) (hag : Fw.IntOk ag) (hn0 : 0 ≤ nr) (hn1 : nr ≤ 1000000) (hlog : LogAt w l g fs (en : Int) (p : Int) nr ag hd 0) (hBl : B ≤ l) (hS : Row8 B w sp b) (hG : 0 < B) (ht : Hid (Fc.Tab w)) (hneed : p + need len ≤ en) (s' : Dst) (ok : Bool) (hr : acts s (recActs ag nr p b) = (s', ok)) :
    Calls Tryd.prog 12 #[.pointer (some ⟨l, 0, none⟩), .slice sp len cap] w fun e w' => ((ok = true ∧ e = .returned (.int .i64 0) ∧ LogAt w' l g fs (en : Int) ((p + need len : Nat) : Int) (nr + 1) ag hd 0) ∨ (ok = false ∧ e = .returned (.int .i64 8) ∧ LogAt w' l g fs (en : Int) (p : Int) nr ag hd 8)) ∧ Hid (Da B w' g L s' (k + need len + 3)) ∧ Hid (Below B w w') ∧ Hid (KeepE g l w w') := by
  have HS := Lib.hid (fun W => sectors_any len (by omega) W)
  have hB0 := (da_lt h).2.2
  obtain ⟨c0, c1, c2, c3, c4, c5, c6, c7⟩ := log_cells hlog
  have HWr := Lib.hid (fun W (hb : Below w.heap.size w W) => write_any (da_below h hb) (by omega) p b len cap sp hbl hbb hlen hlc (by omega) (by have := need_parts len; omega) hag ⟨by omega, by omega⟩ (log_below hlog hb) (row8_below hS hb) hG (Lib.hid (Fc.tab_later ht.out hb)) s' ok hr)
  have HLg := Lib.hid hlog
  have HPs := Lib.hid (fun W (hW : LogAt W l g fs (en : Int) (p : Int) nr ag hd 0) => pass_any p len (by omega) (by omega) hn0 hn1 hW)
  obtain ⟨nd, hnd⟩ : ∃ nd, need len = nd := ⟨_, rfl⟩
  have HND : Hid (nparts len + 1 = nd) := Lib.hid (by rw [← hnd, need_parts]; omega)
  rw [hnd] at HS hneed HPs ⊢
  have hw1 : IntKind.i64.wrap ((en : Int) - (p : Int)) = (en : Int) - (p : Int) := by rw [IntKind.wrap_i64]; omega
  have hlt : ¬ ((en : Int) - (p : Int) < (nd : Int)) := by omega
  have HC2 := Lib.hid (fun W (hb : Below w.heap.size w W) => (log_cells (log_below hlog hb)).2.2.1)
  have HC3 := Lib.hid (fun W (hb : Below w.heap.size w W) => (log_cells (log_below hlog hb)).2.2.2.1)
  have hln : ¬ ((16777216 : Int) < (len : Int)) := by omega
  have HB0 := Lib.hid hB0
  clear h hlog c0 c1 c4 c5 c6 hnd hneed hS hr
  go_enter Tryd.func12, Tryd.ntmps12
  go_wp2_with fail
  let R : World → World → Prop := fun W W2 => Below W.heap.size W W2
  let V : Nat → Value → World → Prop := fun jX v W => match jX with | 0 => v = .slice sp len cap | 1 => v = .int .i64 (len : Int) | 2 => v = .int .i64 (nd : Int) | 3 => v = .pointer (some ⟨l, 0, none⟩) | 4 => v = .pointer (some ⟨l, 0, none⟩) | 5 => v = .pointer (some ⟨l, 2, none⟩) | 6 => v = .int .i64 (en : Int) | 7 => v = .pointer (some ⟨l, 0, none⟩) | 8 => v = .pointer (some ⟨l, 0, none⟩) | 9 => v = .pointer (some ⟨l, 3, none⟩) | 10 => v = .int .i64 (p : Int) | 11 => v = .int .i64 ((en : Int) - (p : Int)) | 12 => v = .bool false | 13 => v = .bool false | _ => True
  refine wp_region_fill (by kernel_rfl) V (fun W => Below w.heap.size w W) R (by kernel_rfl) (by kernel_rfl) ((Below.refl _ _).drew) (fun W W2 hr hi => hi.trans (hr.mono hi.size)) ?_ ?_ ?_
  · intro jX v W W2 hr h
    match jX, h with
    | 0, h => exact h
    | 1, h => exact h
    | 2, h => exact h
    | 3, h => exact h
    | 4, h => exact h
    | 5, h => exact h
    | 6, h => exact h
    | 7, h => exact h
    | 8, h => exact h
    | 9, h => exact h
    | 10, h => exact h
    | 11, h => exact h
    | 12, h => exact h
    | 13, h => exact h
    | nX + 14, h => exact h
  · intro iX o ho a W hN hi h
    match iX, ho with
    | 0, ho =>
      obtain rfl := Option.some.inj (show some _ = some o from ho)
      have e1 : a.eval (.tmp 1) = .slice sp len cap := hN.eval 1 (by kernel_rfl)
      refine fill_value (v := .slice sp len cap) ho rfl (by rfl) (by clear h hN; have hcst : ∀ v, a.eval (.const v) = v := (fun _ => rfl); have hfun : ∀ f, a.eval (.func f) = .func (.func f) #[] #[] := (fun _ => rfl); generalize a.eval = ρ at *; go_simp) rfl (Below.refl _ _)
    | 1, ho =>
      obtain rfl := Option.some.inj (show some _ = some o from ho)
      have e13 : a.eval (.tmp 13) = .slice sp len cap := h ⟨0, .data⟩ (by simp) rfl
      refine fill_value (v := .int .i64 (len : Int)) ho rfl (by rfl) (by clear h hN; have hcst : ∀ v, a.eval (.const v) = v := (fun _ => rfl); have hfun : ∀ f, a.eval (.func f) = .func (.func f) #[] #[] := (fun _ => rfl); generalize a.eval = ρ at *; go_simp) rfl (Below.refl _ _)
    | 2, ho =>
      obtain rfl := Option.some.inj (show some _ = some o from ho)
      have e14 : a.eval (.tmp 14) = .int .i64 (len : Int) := h ⟨1, .data⟩ (by simp) rfl
      refine fill_enter (f := 32) (args := #[.int .i64 (len : Int)]) ho rfl (by rfl) (by clear h hN; have hcst : ∀ v, a.eval (.const v) = v := (fun _ => rfl); have hfun : ∀ f, a.eval (.func f) = .func (.func f) #[] #[] := (fun _ => rfl); generalize a.eval = ρ at *; go_simp) (HS.out W) ?_
      rintro e w2 ⟨rfl, rfl⟩
      exact ⟨_, rfl, rfl, Below.refl _ _⟩
    | 3, ho =>
      obtain rfl := Option.some.inj (show some _ = some o from ho)
      have e0 : a.eval (.tmp 0) = .pointer (some ⟨l, 0, none⟩) := hN.eval 0 (by kernel_rfl)
      refine fill_value (v := .pointer (some ⟨l, 0, none⟩)) ho rfl (by rfl) (by clear h hN; have hcst : ∀ v, a.eval (.const v) = v := (fun _ => rfl); have hfun : ∀ f, a.eval (.func f) = .func (.func f) #[] #[] := (fun _ => rfl); generalize a.eval = ρ at *; go_simp) rfl (Below.refl _ _)
    | 4, ho =>
      obtain rfl := Option.some.inj (show some _ = some o from ho)
      have e16 : a.eval (.tmp 16) = .pointer (some ⟨l, 0, none⟩) := h ⟨3, .data⟩ (by simp) rfl
      refine fill_value (v := .pointer (some ⟨l, 0, none⟩)) ho rfl (by rfl) (by clear h hN; have hcst : ∀ v, a.eval (.const v) = v := (fun _ => rfl); have hfun : ∀ f, a.eval (.func f) = .func (.func f) #[] #[] := (fun _ => rfl); generalize a.eval = ρ at *; go_simp) rfl (Below.refl _ _)
    | 5, ho =>
      obtain rfl := Option.some.inj (show some _ = some o from ho)
      have e17 : a.eval (.tmp 17) = .pointer (some ⟨l, 0, none⟩) := h ⟨4, .data⟩ (by simp) rfl
      refine fill_value (v := .pointer (some ⟨l, 2, none⟩)) ho rfl (by rfl) (by clear h hN; have hcst : ∀ v, a.eval (.const v) = v := (fun _ => rfl); have hfun : ∀ f, a.eval (.func f) = .func (.func f) #[] #[] := (fun _ => rfl); generalize a.eval = ρ at *; go_simp) rfl (Below.refl _ _)
    | 6, ho =>
      obtain rfl := Option.some.inj (show some _ = some o from ho)
      have e18 : a.eval (.tmp 18) = .pointer (some ⟨l, 2, none⟩) := h ⟨5, .data⟩ (by simp) rfl
      have hc := HC2.out W hi
      refine fill_value (v := .int .i64 (en : Int)) ho rfl (by rfl) (by clear h hN; have hcst : ∀ v, a.eval (.const v) = v := (fun _ => rfl); have hfun : ∀ f, a.eval (.func f) = .func (.func f) #[] #[] := (fun _ => rfl); generalize a.eval = ρ at *; go_simp) rfl (Below.refl _ _)
    | 7, ho =>
      obtain rfl := Option.some.inj (show some _ = some o from ho)
      have e0 : a.eval (.tmp 0) = .pointer (some ⟨l, 0, none⟩) := hN.eval 0 (by kernel_rfl)
      refine fill_value (v := .pointer (some ⟨l, 0, none⟩)) ho rfl (by rfl) (by clear h hN; have hcst : ∀ v, a.eval (.const v) = v := (fun _ => rfl); have hfun : ∀ f, a.eval (.func f) = .func (.func f) #[] #[] := (fun _ => rfl); generalize a.eval = ρ at *; go_simp) rfl (Below.refl _ _)
    | 8, ho =>
      obtain rfl := Option.some.inj (show some _ = some o from ho)
      have e20 : a.eval (.tmp 20) = .pointer (some ⟨l, 0, none⟩) := h ⟨7, .data⟩ (by simp) rfl
      refine fill_value (v := .pointer (some ⟨l, 0, none⟩)) ho rfl (by rfl) (by clear h hN; have hcst : ∀ v, a.eval (.const v) = v := (fun _ => rfl); have hfun : ∀ f, a.eval (.func f) = .func (.func f) #[] #[] := (fun _ => rfl); generalize a.eval = ρ at *; go_simp) rfl (Below.refl _ _)
    | 9, ho =>
      obtain rfl := Option.some.inj (show some _ = some o from ho)
      have e21 : a.eval (.tmp 21) = .pointer (some ⟨l, 0, none⟩) := h ⟨8, .data⟩ (by simp) rfl
      refine fill_value (v := .pointer (some ⟨l, 3, none⟩)) ho rfl (by rfl) (by clear h hN; have hcst : ∀ v, a.eval (.const v) = v := (fun _ => rfl); have hfun : ∀ f, a.eval (.func f) = .func (.func f) #[] #[] := (fun _ => rfl); generalize a.eval = ρ at *; go_simp) rfl (Below.refl _ _)
    | 10, ho =>
      obtain rfl := Option.some.inj (show some _ = some o from ho)
      have e22 : a.eval (.tmp 22) = .pointer (some ⟨l, 3, none⟩) := h ⟨9, .data⟩ (by simp) rfl
      have hc := HC3.out W hi
      refine fill_value (v := .int .i64 (p : Int)) ho rfl (by rfl) (by clear h hN; have hcst : ∀ v, a.eval (.const v) = v := (fun _ => rfl); have hfun : ∀ f, a.eval (.func f) = .func (.func f) #[] #[] := (fun _ => rfl); generalize a.eval = ρ at *; go_simp) rfl (Below.refl _ _)
    | 11, ho =>
      obtain rfl := Option.some.inj (show some _ = some o from ho)
      have e19 : a.eval (.tmp 19) = .int .i64 (en : Int) := h ⟨6, .data⟩ (by simp) rfl
      have e23 : a.eval (.tmp 23) = .int .i64 (p : Int) := h ⟨10, .data⟩ (by simp) rfl
      refine fill_value (v := .int .i64 ((en : Int) - (p : Int))) ho rfl (by rfl) (by clear h hN; have hcst : ∀ v, a.eval (.const v) = v := (fun _ => rfl); have hfun : ∀ f, a.eval (.func f) = .func (.func f) #[] #[] := (fun _ => rfl); generalize a.eval = ρ at *; go_simp) rfl (Below.refl _ _)
    | 12, ho =>
      obtain rfl := Option.some.inj (show some _ = some o from ho)
      have e15 : a.eval (.tmp 15) = .int .i64 (nd : Int) := h ⟨2, .data⟩ (by simp) rfl
      have e24 : a.eval (.tmp 24) = .int .i64 ((en : Int) - (p : Int)) := h ⟨11, .data⟩ (by simp) rfl
      refine fill_value (v := .bool false) ho rfl (by rfl) (by clear h hN; have hcst : ∀ v, a.eval (.const v) = v := (fun _ => rfl); have hfun : ∀ f, a.eval (.func f) = .func (.func f) #[] #[] := (fun _ => rfl); generalize a.eval = ρ at *; go_simp) rfl (Below.refl _ _)
    | 13, ho =>
      obtain rfl := Option.some.inj (show some _ = some o from ho)
      have e25 : a.eval (.tmp 25) = .bool false := h ⟨12, .data⟩ (by simp) rfl
      refine fill_value (v := .bool false) ho rfl (by rfl) (by clear h hN; have hcst : ∀ v, a.eval (.const v) = v := (fun _ => rfl); have hfun : ∀ f, a.eval (.func f) = .func (.func f) #[] #[] := (fun _ => rfl); generalize a.eval = ρ at *; go_simp) rfl (Below.refl _ _)
    | nX + 14, ho => exact absurd ho (by simp)
  · intro vals W hi h
    have u0 : vals 0 = .slice sp len cap := h 0 (by decide)
    have u1 : vals 1 = .int .i64 (len : Int) := h 1 (by decide)
    have u2 : vals 2 = .int .i64 (nd : Int) := h 2 (by decide)
    have u3 : vals 3 = .pointer (some ⟨l, 0, none⟩) := h 3 (by decide)
    have u4 : vals 4 = .pointer (some ⟨l, 0, none⟩) := h 4 (by decide)
    have u5 : vals 5 = .pointer (some ⟨l, 2, none⟩) := h 5 (by decide)
    have u6 : vals 6 = .int .i64 (en : Int) := h 6 (by decide)
    have u7 : vals 7 = .pointer (some ⟨l, 0, none⟩) := h 7 (by decide)
    have u8 : vals 8 = .pointer (some ⟨l, 0, none⟩) := h 8 (by decide)
    have u9 : vals 9 = .pointer (some ⟨l, 3, none⟩) := h 9 (by decide)
    have u10 : vals 10 = .int .i64 (p : Int) := h 10 (by decide)
    have u11 : vals 11 = .int .i64 ((en : Int) - (p : Int)) := h 11 (by decide)
    have u12 : vals 12 = .bool false := h 12 (by decide)
    have u13 : vals 13 = .bool false := h 13 (by decide)
    generalize hA : fill _ _ _ _ = A
    have hA2 : (Act.put (Act.put (Act.put (Act.put (Act.put (Act.put (Act.put (Act.put (Act.put (Act.put (Act.put (Act.put (Act.put (Act.put (_ : Act) (some 13) (vals 0)) (some 14) (vals 1)) (some 15) (vals 2)) (some 16) (vals 3)) (some 17) (vals 4)) (some 18) (vals 5)) (some 19) (vals 6)) (some 20) (vals 7)) (some 21) (vals 8)) (some 22) (vals 9)) (some 23) (vals 10)) (some 24) (vals 11)) (some 25) (vals 12)) (some 12) (vals 13)) = A := hA
    clear hA h V R
    rw [u0, u1, u2, u3, u4, u5, u6, u7, u8, u9, u10, u11, u12, u13] at hA2
    simp only [fill, Act.put, List.setIfInBounds_toArray, List.set_cons_succ, List.set_cons_zero] at hA2
    subst hA2
    clear u0 u1 u2 u3 u4 u5 u6 u7 u8 u9 u10 u11 u12 u13
    obtain ⟨wA, hwA⟩ : ∃ x, x = W := ⟨_, rfl⟩
    subst hwA
    have hbA := Lib.hid hi
    have c7A := (log_cells (log_below HLg.out hbA.out)).2.2.2.2.2.2.2
    clear hi c2 c3 c7 HC2 HC3
    go_wp2_with fail
    refine (HWr.out wA hbA.out).mono ?_
    rintro e w2 ⟨a0, a1, a2, a3⟩
    have hl2 := Lib.hid (log_keep (log_below HLg.out hbA.out) a3.out)
    have c7B := (log_cells hl2.out).2.2.2.2.2.2.2
    have f7B := log_free hl2.out 7
    have HB2 := Lib.hid ((hbA.out.mono HB0.out).trans a2.out)
    have HK2 : Hid (KeepE g l w w2) := Lib.hid ((KeepE.of_keep (KeepT.of_below (g := g) hbA.out)).trans (KeepE.of_keep a3.out))
    clear c7A hbA a2 a3
    rcases a0 with ⟨hok, rfl⟩ | ⟨hok, rfl⟩
    · go_wp2_with fail
      have hl3 := Lib.hid (log_set7 hl2.out 0)
      have hon3 := Lib.hid (Fk.only_set (Fk.Only.refl (· = l) w2) 7 (.int .i64 0))
      have HD3 := Lib.hid (da_only a1.out hon3.out ⟨_, _, _, hl2.out, notTL⟩)
      refine (HPs.out _ hl3.out).mono ?_
      rintro e w4 ⟨rfl, hl4, hon4⟩
      have HL4 := Lib.hid hl4
      have HO4 := Lib.hid hon4
      clear hl4 hon4
      go_wp2_with fail
      go_ret
      have hD4 := da_only HD3.out HO4.out ⟨_, _, _, hl3.out, notTL⟩
      exact ⟨.inl ⟨hok, rfl, HL4.out⟩, Lib.hid (da_mono hD4 (by have := HND.out; omega)), Lib.hid (HB2.out.trans ((hon3.out.trans HO4.out).below (fun q e => by rw [e]; exact hBl) (Nat.le_trans HB0.out HB2.out.size))), Lib.hid (HK2.out.trans (keepE_of_only (hon3.out.trans HO4.out)))⟩
    · go_wp2_with fail
      go_ret
      have hon3 := Fk.only_set (Fk.Only.refl (· = l) w2) 7 (.int .i64 8)
      exact ⟨.inr ⟨hok, rfl, log_set7 hl2.out 8⟩, Lib.hid (da_mono (da_only a1.out hon3 ⟨_, _, _, hl2.out, notTL⟩) (by have := HND.out; omega)), Lib.hid (HB2.out.trans (hon3.below (fun q e => by rw [e]; exact hBl) (Nat.le_trans HB0.out HB2.out.size))), Lib.hid (HK2.out.trans (keepE_of_only hon3))⟩
end Go.Proofs.YtfhgdcljhncjmaaDoor
