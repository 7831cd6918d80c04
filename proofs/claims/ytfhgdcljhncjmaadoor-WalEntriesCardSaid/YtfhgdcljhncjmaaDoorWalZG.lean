/- Rows of rows of bytes against rows of texts. -/
import Derived.Test.YtfhgdcljhncjmaaDoorWalZF
import Derived.Test.YtfhgdcljhncjmaaDoorReg5
import Derived.BigQuiet
namespace Go.Proofs.YtfhgdcljhncjmaaDoor
open Go.ChangeShapes Go.WideShapes Go.ChangeAt Go.RowKit
set_option linter.unusedVariables false
set_option maxRecDepth 20000

/-- rows of bytes, in a row -/
def RowB (w : World) (a : Option Addr) (n : Nat) (bs : List (List Nat)) : Prop := bs.length = n ∧ ∀ (i : Nat) b, bs[i]? = some b → ∃ gR gr cr, a = some ⟨gR, 0, none⟩ ∧ w.cell? ⟨gR, i, none⟩ = some (.slice (some ⟨gr, 0, none⟩) b.length cr) ∧ Fc.Src w (some ⟨gr, 0, none⟩) b
/-- texts, in a row -/
def RowS (w : World) (a : Option Addr) (n : Nat) (ss : List ByteArray) : Prop := ss.length = n ∧ ∀ (i : Nat) s, ss[i]? = some s → ∃ gS, a = some ⟨gS, 0, none⟩ ∧ w.cell? ⟨gS, i, none⟩ = some (.string s)
theorem rowb_below {w w' : World} {a : Option Addr} {n : Nat} {bs : List (List Nat)} (h : RowB w a n bs) (hb : Below w.heap.size w w') : RowB w' a n bs := ⟨h.1, fun i b hi => by
  obtain ⟨gR, gr, cr, e, h1, h2⟩ := h.2 i b hi
  exact ⟨gR, gr, cr, e, (hb.cell (World.block_lt_of_cell? w _ h1)).trans h1, Fc.src_later h2 hb⟩⟩
theorem rows_below {w w' : World} {a : Option Addr} {n : Nat} {ss : List ByteArray} (h : RowS w a n ss) (hb : Below w.heap.size w w') : RowS w' a n ss := ⟨h.1, fun i s hi => by
  obtain ⟨gS, e, h1⟩ := h.2 i s hi
  exact ⟨gS, e, (hb.cell (World.block_lt_of_cell? w _ h1)).trans h1⟩⟩
theorem rowb_recs {B lo : Nat} {w : World} {v : Value} {bs : List (List Nat)} (h : RecsAt B lo w v bs) : ∃ a n c, v = .slice a n c ∧ RowB w a n bs := by
  by_cases h0 : bs = []
  · subst h0
    exact ⟨none, 0, 0, recs_none h, rfl, fun i b hi => by simp at hi⟩
  · obtain ⟨gR, cR, rfl, hc⟩ := recs_cell h bs.length rfl (List.length_pos_iff.2 h0)
    refine ⟨_, _, _, rfl, rfl, fun i b hi => ?_⟩
    obtain ⟨gr, cr, c1, c2⟩ := hc i b hi
    exact ⟨gR, gr, cr, rfl, c1, c2⟩
theorem rows_own {B : Nat} {w : World} {v : Value} {ss : List ByteArray} (h : w.ownsRow B 9 1 v ss.length (Fk.strs ss)) (h0 : ss = [] → v = .slice none 0 0) : ∃ a n c, v = .slice a n c ∧ RowS w a n ss := by
  by_cases hz : ss = []
  · subst hz
    exact ⟨none, 0, 0, h0 rfl, rfl, fun i b hi => by simp at hi⟩
  · obtain ⟨gS, cS, rfl⟩ := Fk.own_shape h (List.length_pos_iff.2 hz)
    refine ⟨_, _, _, rfl, rfl, fun i s hi => ⟨gS, rfl, ?_⟩⟩
    have hlt := (List.getElem?_eq_some_iff.1 hi).1
    rw [World.ownsRow.cellAt h i (by omega), strs_get, hi]
    rfl
theorem eq_of_get {bs : List (List Nat)} {ss : List ByteArray} (n : Nat) (h1 : bs.length = n) (h2 : ss.length = n) (h : ∀ k, k < n → (bs.map Fc.sv)[k]? = ss[k]?) : bs.map Fc.sv = ss := by
  apply List.ext_getElem?
  intro k
  by_cases hk : k < n
  · exact h k hk
  · rw [List.getElem?_eq_none (by rw [List.length_map]; omega), List.getElem?_eq_none (by omega)]
set_option maxHeartbeats 1000000 in
theorem same_any (a : Option Addr) (n c : Nat) (bs : List (List Nat)) (b : Option Addr) (m d : Nat) (ss : List ByteArray) (w : World) (ha : RowB w a n bs) (hb : RowS w b m ss) (hn : n ≤ 100000) (hm : m ≤ 100000) (r : Bool) (hr : r = true ↔ bs.map Fc.sv = ss) :
    Calls Tryd.prog 19 #[.slice a n c, .slice b m d] w fun e w' => e = .returned (.bool r) ∧ Hid (Below w.heap.size w w') := by
  have HA := Lib.hid ha
  have HB := Lib.hid hb
  have HR := Lib.hid hr
  clear ha hb hr
  by_cases hnm : n = m
  · subst hnm
    go_enter Tryd.func19, Tryd.ntmps19
    go_wp2_with fail
    go_loopw [5] (fun i wr => ∃ j : Nat, i = .int .i64 (j : Int) ∧ j ≤ n ∧ Hid (∀ k, k < j → (bs.map Fc.sv)[k]? = ss[k]?) ∧ Hid (Below w.heap.size w wr)) (fun i _ => n - (intOf i).toNat)
    case atStart => exact ⟨0, rfl, by omega, Lib.hid (fun k hk => by omega), Lib.hid (Below.refl _ _)⟩
    case round =>
      obtain ⟨j, rfl, hj, HE, HBl⟩ := hrel
      by_cases hlt : j < n
      · have hltI : (j : Int) < (n : Int) := by omega
        have hw1 : IntKind.i64.wrap ((j : Int) + 1) = ((j + 1 : Nat) : Int) := by rw [IntKind.wrap_i64]; omega
        have e1 : bs[j]? = some (bs[j]'(by have := HA.out.1; omega)) := List.getElem?_eq_getElem _
        have e2 : ss[j]? = some (ss[j]'(by have := HB.out.1; omega)) := List.getElem?_eq_getElem _
        obtain ⟨x, hx⟩ : ∃ x, bs[j]'(by have := HA.out.1; omega) = x := ⟨_, rfl⟩
        obtain ⟨s, hs⟩ : ∃ s, ss[j]'(by have := HB.out.1; omega) = s := ⟨_, rfl⟩
        rw [hx] at e1
        rw [hs] at e2
        obtain ⟨gR, gr, cr, rfl, c1, c2⟩ := (rowb_below HA.out HBl.out).2 j x e1
        obtain ⟨gS, rfl, c3⟩ := (rows_below HB.out HBl.out).2 j s e2
        have hcv : ∀ W, Below wr.heap.size wr W → (convert 34 9 (.slice (some ⟨gr, 0, none⟩) x.length cr)).run Tryd.prog W = .ok (.string (Fc.sv x)) W := fun W hW => Fc.src_conv0 (Fc.src_later c2 hW) cr (fun e => by cases e)
        obtain ⟨u, hu⟩ : ∃ u, Fc.sv x = u := ⟨_, rfl⟩
        rw [hu] at hcv
        have HE2 : Hid ((bs.map Fc.sv)[j]? = some u ∧ ss[j]? = some s) := Lib.hid ⟨by rw [List.getElem?_map, e1, ← hu]; rfl, e2⟩
        clear hx hs e1 e2 c2 hu
        by_cases hus : u = s
        · subst hus
          go_wp2_with fail
          let R : World → World → Prop := fun W W2 => Below W.heap.size W W2
          let V : Nat → Value → World → Prop := fun jX v W => match jX with | 0 => v = .slice (some ⟨gR, 0, none⟩) n c | 1 => v = .int .i64 (j : Int) | 2 => v = .pointer (some ⟨gR, j, none⟩) | 3 => v = .slice (some ⟨gr, 0, none⟩) x.length cr | 4 => v = .string u | 5 => v = .slice (some ⟨gS, 0, none⟩) n d | 6 => v = .int .i64 (j : Int) | 7 => v = .pointer (some ⟨gS, j, none⟩) | 8 => v = .string u | 9 => v = .bool false | _ => True
          refine wp_region_fill (by kernel_rfl) V (fun W => Below wr.heap.size wr W) R (by kernel_rfl) (by kernel_rfl) ((Below.refl _ _).drew) (fun W W2 hr hi => hi.trans (hr.mono hi.size)) ?_ ?_ ?_
          · intro jX v W W2 hr h
            match jX, h with
            | 0, h => exact h
            | 1, h => exact h
            | 2, h => exact h
            | 3, h => exact h
            | 4, h => exact h
            | 5, h => exact h
            | 6, h => exact h
            | 7, h => exact h
            | 8, h => exact h
            | 9, h => exact h
            | nX + 10, h => exact h
          · intro iX o ho a W hN hi h
            match iX, ho with
            | 0, ho =>
              obtain rfl := Option.some.inj (show some _ = some o from ho)
              have e0 : a.eval (.tmp 0) = .slice (some ⟨gR, 0, none⟩) n c := hN.eval 0 (by kernel_rfl)
              refine fill_value (v := .slice (some ⟨gR, 0, none⟩) n c) ho rfl (by rfl) (by clear h hN; have hcst : ∀ v, a.eval (.const v) = v := (fun _ => rfl); have hfun : ∀ f, a.eval (.func f) = .func (.func f) #[] #[] := (fun _ => rfl); generalize a.eval = ρ at *; go_simp) rfl (Below.refl _ _)
            | 1, ho =>
              obtain rfl := Option.some.inj (show some _ = some o from ho)
              have e5 : a.eval (.tmp 5) = .int .i64 (j : Int) := hN.eval 5 (by kernel_rfl)
              refine fill_value (v := .int .i64 (j : Int)) ho rfl (by rfl) (by clear h hN; have hcst : ∀ v, a.eval (.const v) = v := (fun _ => rfl); have hfun : ∀ f, a.eval (.func f) = .func (.func f) #[] #[] := (fun _ => rfl); generalize a.eval = ρ at *; go_simp) rfl (Below.refl _ _)
            | 2, ho =>
              obtain rfl := Option.some.inj (show some _ = some o from ho)
              have e17 : a.eval (.tmp 17) = .slice (some ⟨gR, 0, none⟩) n c := h ⟨0, .data⟩ (by simp) rfl
              have e18 : a.eval (.tmp 18) = .int .i64 (j : Int) := h ⟨1, .data⟩ (by simp) rfl
              refine fill_value (v := .pointer (some ⟨gR, j, none⟩)) ho rfl (by rfl) (by clear h hN; have hcst : ∀ v, a.eval (.const v) = v := (fun _ => rfl); have hfun : ∀ f, a.eval (.func f) = .func (.func f) #[] #[] := (fun _ => rfl); generalize a.eval = ρ at *; go_simp) rfl (Below.refl _ _)
            | 3, ho =>
              obtain rfl := Option.some.inj (show some _ = some o from ho)
              have e19 : a.eval (.tmp 19) = .pointer (some ⟨gR, j, none⟩) := h ⟨2, .data⟩ (by simp) rfl
              have hc := (hi.cell (World.block_lt_of_cell? wr _ c1)).trans c1
              refine fill_value (v := .slice (some ⟨gr, 0, none⟩) x.length cr) ho rfl (by rfl) (by clear h hN; have hcst : ∀ v, a.eval (.const v) = v := (fun _ => rfl); have hfun : ∀ f, a.eval (.func f) = .func (.func f) #[] #[] := (fun _ => rfl); generalize a.eval = ρ at *; go_simp) rfl (Below.refl _ _)
            | 4, ho =>
              obtain rfl := Option.some.inj (show some _ = some o from ho)
              have e20 : a.eval (.tmp 20) = .slice (some ⟨gr, 0, none⟩) x.length cr := h ⟨3, .data⟩ (by simp) rfl
              have hcw := hcv W hi
              refine fill_value (v := .string u) ho rfl (by rfl) (by clear h hN; have hcst : ∀ v, a.eval (.const v) = v := (fun _ => rfl); have hfun : ∀ f, a.eval (.func f) = .func (.func f) #[] #[] := (fun _ => rfl); generalize a.eval = ρ at *; go_simp) rfl (Below.refl _ _)
            | 5, ho =>
              obtain rfl := Option.some.inj (show some _ = some o from ho)
              have e1 : a.eval (.tmp 1) = .slice (some ⟨gS, 0, none⟩) n d := hN.eval 1 (by kernel_rfl)
              refine fill_value (v := .slice (some ⟨gS, 0, none⟩) n d) ho rfl (by rfl) (by clear h hN; have hcst : ∀ v, a.eval (.const v) = v := (fun _ => rfl); have hfun : ∀ f, a.eval (.func f) = .func (.func f) #[] #[] := (fun _ => rfl); generalize a.eval = ρ at *; go_simp) rfl (Below.refl _ _)
            | 6, ho =>
              obtain rfl := Option.some.inj (show some _ = some o from ho)
              have e5 : a.eval (.tmp 5) = .int .i64 (j : Int) := hN.eval 5 (by kernel_rfl)
              refine fill_value (v := .int .i64 (j : Int)) ho rfl (by rfl) (by clear h hN; have hcst : ∀ v, a.eval (.const v) = v := (fun _ => rfl); have hfun : ∀ f, a.eval (.func f) = .func (.func f) #[] #[] := (fun _ => rfl); generalize a.eval = ρ at *; go_simp) rfl (Below.refl _ _)
            | 7, ho =>
              obtain rfl := Option.some.inj (show some _ = some o from ho)
              have e22 : a.eval (.tmp 22) = .slice (some ⟨gS, 0, none⟩) n d := h ⟨5, .data⟩ (by simp) rfl
              have e23 : a.eval (.tmp 23) = .int .i64 (j : Int) := h ⟨6, .data⟩ (by simp) rfl
              refine fill_value (v := .pointer (some ⟨gS, j, none⟩)) ho rfl (by rfl) (by clear h hN; have hcst : ∀ v, a.eval (.const v) = v := (fun _ => rfl); have hfun : ∀ f, a.eval (.func f) = .func (.func f) #[] #[] := (fun _ => rfl); generalize a.eval = ρ at *; go_simp) rfl (Below.refl _ _)
            | 8, ho =>
              obtain rfl := Option.some.inj (show some _ = some o from ho)
              have e24 : a.eval (.tmp 24) = .pointer (some ⟨gS, j, none⟩) := h ⟨7, .data⟩ (by simp) rfl
              have hc := (hi.cell (World.block_lt_of_cell? wr _ c3)).trans c3
              refine fill_value (v := .string u) ho rfl (by rfl) (by clear h hN; have hcst : ∀ v, a.eval (.const v) = v := (fun _ => rfl); have hfun : ∀ f, a.eval (.func f) = .func (.func f) #[] #[] := (fun _ => rfl); generalize a.eval = ρ at *; go_simp) rfl (Below.refl _ _)
            | 9, ho =>
              obtain rfl := Option.some.inj (show some _ = some o from ho)
              have e21 : a.eval (.tmp 21) = .string u := h ⟨4, .data⟩ (by simp) rfl
              have e25 : a.eval (.tmp 25) = .string u := h ⟨8, .data⟩ (by simp) rfl
              refine fill_value (v := .bool false) ho rfl (by rfl) (by clear h hN; have hcst : ∀ v, a.eval (.const v) = v := (fun _ => rfl); have hfun : ∀ f, a.eval (.func f) = .func (.func f) #[] #[] := (fun _ => rfl); generalize a.eval = ρ at *; go_simp) rfl (Below.refl _ _)
            | nX + 10, ho => exact absurd ho (by simp)
          · intro vals W hi h
            have u0 : vals 0 = .slice (some ⟨gR, 0, none⟩) n c := h 0 (by decide)
            have u1 : vals 1 = .int .i64 (j : Int) := h 1 (by decide)
            have u2 : vals 2 = .pointer (some ⟨gR, j, none⟩) := h 2 (by decide)
            have u3 : vals 3 = .slice (some ⟨gr, 0, none⟩) x.length cr := h 3 (by decide)
            have u4 : vals 4 = .string u := h 4 (by decide)
            have u5 : vals 5 = .slice (some ⟨gS, 0, none⟩) n d := h 5 (by decide)
            have u6 : vals 6 = .int .i64 (j : Int) := h 6 (by decide)
            have u7 : vals 7 = .pointer (some ⟨gS, j, none⟩) := h 7 (by decide)
            have u8 : vals 8 = .string u := h 8 (by decide)
            have u9 : vals 9 = .bool false := h 9 (by decide)
            generalize hA : fill _ _ _ _ = A
            have hA2 : (Act.put (Act.put (Act.put (Act.put (Act.put (Act.put (Act.put (Act.put (Act.put (Act.put (_ : Act) (some 17) (vals 0)) (some 18) (vals 1)) (some 19) (vals 2)) (some 20) (vals 3)) (some 21) (vals 4)) (some 22) (vals 5)) (some 23) (vals 6)) (some 24) (vals 7)) (some 25) (vals 8)) (some 26) (vals 9)) = A := hA
            clear hA h V R
            rw [u0, u1, u2, u3, u4, u5, u6, u7, u8, u9] at hA2
            simp only [fill, Act.put, List.setIfInBounds_toArray, List.set_cons_succ, List.set_cons_zero] at hA2
            subst hA2
            clear u0 u1 u2 u3 u4 u5 u6 u7 u8 u9
            have HBl2 : Hid (Below w.heap.size w W) := Lib.hid (HBl.out.trans (hi.mono HBl.out.size))
            have HE3 : Hid (∀ k, k < j + 1 → (bs.map Fc.sv)[k]? = ss[k]?) := Lib.hid fun k hk => by
              by_cases hkj : k < j
              · exact HE.out k hkj
              · obtain rfl : k = j := by omega
                have h2 := HE2.out
                rw [h2.1, h2.2]
            clear hi hcv HE2 HE
            go_wp2_with fail
            go_roundw
            case rel => exact ⟨j + 1, by go_num, by omega, HE3, HBl2⟩
            case measure => simp [intOf]; omega
        · have hul : ¬ (u.toList = s.toList) := fun e => hus (ByteArray.ext (Array.toList_inj.1 (by rw [← ByteArray.toList_eq, ← ByteArray.toList_eq]; exact e)))
          have HN : Hid (r = false) := Lib.hid (by
            cases r with
            | false => rfl
            | true =>
              exfalso
              have h1 := HR.out.1 rfl
              have h2 := HE2.out
              rw [h1, h2.2] at h2
              exact hus (Option.some.inj h2.1).symm)
          go_wp2_with fail
          let R : World → World → Prop := fun W W2 => Below W.heap.size W W2
          let V : Nat → Value → World → Prop := fun jX v W => match jX with | 0 => v = .slice (some ⟨gR, 0, none⟩) n c | 1 => v = .int .i64 (j : Int) | 2 => v = .pointer (some ⟨gR, j, none⟩) | 3 => v = .slice (some ⟨gr, 0, none⟩) x.length cr | 4 => v = .string u | 5 => v = .slice (some ⟨gS, 0, none⟩) n d | 6 => v = .int .i64 (j : Int) | 7 => v = .pointer (some ⟨gS, j, none⟩) | 8 => v = .string s | 9 => v = .bool true | _ => True
          refine wp_region_fill (by kernel_rfl) V (fun W => Below wr.heap.size wr W) R (by kernel_rfl) (by kernel_rfl) ((Below.refl _ _).drew) (fun W W2 hr hi => hi.trans (hr.mono hi.size)) ?_ ?_ ?_
          · intro jX v W W2 hr h
            match jX, h with
            | 0, h => exact h
            | 1, h => exact h
            | 2, h => exact h
            | 3, h => exact h
            | 4, h => exact h
            | 5, h => exact h
            | 6, h => exact h
            | 7, h => exact h
            | 8, h => exact h
            | 9, h => exact h
            | nX + 10, h => exact h
          · intro iX o ho a W hN hi h
            match iX, ho with
            | 0, ho =>
              obtain rfl := Option.some.inj (show some _ = some o from ho)
              have e0 : a.eval (.tmp 0) = .slice (some ⟨gR, 0, none⟩) n c := hN.eval 0 (by kernel_rfl)
              refine fill_value (v := .slice (some ⟨gR, 0, none⟩) n c) ho rfl (by rfl) (by clear h hN; have hcst : ∀ v, a.eval (.const v) = v := (fun _ => rfl); have hfun : ∀ f, a.eval (.func f) = .func (.func f) #[] #[] := (fun _ => rfl); generalize a.eval = ρ at *; go_simp) rfl (Below.refl _ _)
            | 1, ho =>
              obtain rfl := Option.some.inj (show some _ = some o from ho)
              have e5 : a.eval (.tmp 5) = .int .i64 (j : Int) := hN.eval 5 (by kernel_rfl)
              refine fill_value (v := .int .i64 (j : Int)) ho rfl (by rfl) (by clear h hN; have hcst : ∀ v, a.eval (.const v) = v := (fun _ => rfl); have hfun : ∀ f, a.eval (.func f) = .func (.func f) #[] #[] := (fun _ => rfl); generalize a.eval = ρ at *; go_simp) rfl (Below.refl _ _)
            | 2, ho =>
              obtain rfl := Option.some.inj (show some _ = some o from ho)
              have e17 : a.eval (.tmp 17) = .slice (some ⟨gR, 0, none⟩) n c := h ⟨0, .data⟩ (by simp) rfl
              have e18 : a.eval (.tmp 18) = .int .i64 (j : Int) := h ⟨1, .data⟩ (by simp) rfl
              refine fill_value (v := .pointer (some ⟨gR, j, none⟩)) ho rfl (by rfl) (by clear h hN; have hcst : ∀ v, a.eval (.const v) = v := (fun _ => rfl); have hfun : ∀ f, a.eval (.func f) = .func (.func f) #[] #[] := (fun _ => rfl); generalize a.eval = ρ at *; go_simp) rfl (Below.refl _ _)
            | 3, ho =>
              obtain rfl := Option.some.inj (show some _ = some o from ho)
              have e19 : a.eval (.tmp 19) = .pointer (some ⟨gR, j, none⟩) := h ⟨2, .data⟩ (by simp) rfl
              have hc := (hi.cell (World.block_lt_of_cell? wr _ c1)).trans c1
              refine fill_value (v := .slice (some ⟨gr, 0, none⟩) x.length cr) ho rfl (by rfl) (by clear h hN; have hcst : ∀ v, a.eval (.const v) = v := (fun _ => rfl); have hfun : ∀ f, a.eval (.func f) = .func (.func f) #[] #[] := (fun _ => rfl); generalize a.eval = ρ at *; go_simp) rfl (Below.refl _ _)
            | 4, ho =>
              obtain rfl := Option.some.inj (show some _ = some o from ho)
              have e20 : a.eval (.tmp 20) = .slice (some ⟨gr, 0, none⟩) x.length cr := h ⟨3, .data⟩ (by simp) rfl
              have hcw := hcv W hi
              refine fill_value (v := .string u) ho rfl (by rfl) (by clear h hN; have hcst : ∀ v, a.eval (.const v) = v := (fun _ => rfl); have hfun : ∀ f, a.eval (.func f) = .func (.func f) #[] #[] := (fun _ => rfl); generalize a.eval = ρ at *; go_simp) rfl (Below.refl _ _)
            | 5, ho =>
              obtain rfl := Option.some.inj (show some _ = some o from ho)
              have e1 : a.eval (.tmp 1) = .slice (some ⟨gS, 0, none⟩) n d := hN.eval 1 (by kernel_rfl)
              refine fill_value (v := .slice (some ⟨gS, 0, none⟩) n d) ho rfl (by rfl) (by clear h hN; have hcst : ∀ v, a.eval (.const v) = v := (fun _ => rfl); have hfun : ∀ f, a.eval (.func f) = .func (.func f) #[] #[] := (fun _ => rfl); generalize a.eval = ρ at *; go_simp) rfl (Below.refl _ _)
            | 6, ho =>
              obtain rfl := Option.some.inj (show some _ = some o from ho)
              have e5 : a.eval (.tmp 5) = .int .i64 (j : Int) := hN.eval 5 (by kernel_rfl)
              refine fill_value (v := .int .i64 (j : Int)) ho rfl (by rfl) (by clear h hN; have hcst : ∀ v, a.eval (.const v) = v := (fun _ => rfl); have hfun : ∀ f, a.eval (.func f) = .func (.func f) #[] #[] := (fun _ => rfl); generalize a.eval = ρ at *; go_simp) rfl (Below.refl _ _)
            | 7, ho =>
              obtain rfl := Option.some.inj (show some _ = some o from ho)
              have e22 : a.eval (.tmp 22) = .slice (some ⟨gS, 0, none⟩) n d := h ⟨5, .data⟩ (by simp) rfl
              have e23 : a.eval (.tmp 23) = .int .i64 (j : Int) := h ⟨6, .data⟩ (by simp) rfl
              refine fill_value (v := .pointer (some ⟨gS, j, none⟩)) ho rfl (by rfl) (by clear h hN; have hcst : ∀ v, a.eval (.const v) = v := (fun _ => rfl); have hfun : ∀ f, a.eval (.func f) = .func (.func f) #[] #[] := (fun _ => rfl); generalize a.eval = ρ at *; go_simp) rfl (Below.refl _ _)
            | 8, ho =>
              obtain rfl := Option.some.inj (show some _ = some o from ho)
              have e24 : a.eval (.tmp 24) = .pointer (some ⟨gS, j, none⟩) := h ⟨7, .data⟩ (by simp) rfl
              have hc := (hi.cell (World.block_lt_of_cell? wr _ c3)).trans c3
              refine fill_value (v := .string s) ho rfl (by rfl) (by clear h hN; have hcst : ∀ v, a.eval (.const v) = v := (fun _ => rfl); have hfun : ∀ f, a.eval (.func f) = .func (.func f) #[] #[] := (fun _ => rfl); generalize a.eval = ρ at *; go_simp) rfl (Below.refl _ _)
            | 9, ho =>
              obtain rfl := Option.some.inj (show some _ = some o from ho)
              have e21 : a.eval (.tmp 21) = .string u := h ⟨4, .data⟩ (by simp) rfl
              have e25 : a.eval (.tmp 25) = .string s := h ⟨8, .data⟩ (by simp) rfl
              refine fill_value (v := .bool true) ho rfl (by rfl) (by clear h hN; have hcst : ∀ v, a.eval (.const v) = v := (fun _ => rfl); have hfun : ∀ f, a.eval (.func f) = .func (.func f) #[] #[] := (fun _ => rfl); generalize a.eval = ρ at *; go_simp) rfl (Below.refl _ _)
            | nX + 10, ho => exact absurd ho (by simp)
          · intro vals W hi h
            have u0 : vals 0 = .slice (some ⟨gR, 0, none⟩) n c := h 0 (by decide)
            have u1 : vals 1 = .int .i64 (j : Int) := h 1 (by decide)
            have u2 : vals 2 = .pointer (some ⟨gR, j, none⟩) := h 2 (by decide)
            have u3 : vals 3 = .slice (some ⟨gr, 0, none⟩) x.length cr := h 3 (by decide)
            have u4 : vals 4 = .string u := h 4 (by decide)
            have u5 : vals 5 = .slice (some ⟨gS, 0, none⟩) n d := h 5 (by decide)
            have u6 : vals 6 = .int .i64 (j : Int) := h 6 (by decide)
            have u7 : vals 7 = .pointer (some ⟨gS, j, none⟩) := h 7 (by decide)
            have u8 : vals 8 = .string s := h 8 (by decide)
            have u9 : vals 9 = .bool true := h 9 (by decide)
            generalize hA : fill _ _ _ _ = A
            have hA2 : (Act.put (Act.put (Act.put (Act.put (Act.put (Act.put (Act.put (Act.put (Act.put (Act.put (_ : Act) (some 17) (vals 0)) (some 18) (vals 1)) (some 19) (vals 2)) (some 20) (vals 3)) (some 21) (vals 4)) (some 22) (vals 5)) (some 23) (vals 6)) (some 24) (vals 7)) (some 25) (vals 8)) (some 26) (vals 9)) = A := hA
            clear hA h V R
            rw [u0, u1, u2, u3, u4, u5, u6, u7, u8, u9] at hA2
            simp only [fill, Act.put, List.setIfInBounds_toArray, List.set_cons_succ, List.set_cons_zero] at hA2
            subst hA2
            clear u0 u1 u2 u3 u4 u5 u6 u7 u8 u9
            have HBl2 : Hid (Below w.heap.size w W) := Lib.hid (HBl.out.trans (hi.mono HBl.out.size))
            clear hi hcv HE2
            go_wp2_with fail
            go_ret
            exact ⟨congrArg (fun x => Ending.returned (Value.bool x)) HN.out.symm, HBl2⟩
      · obtain rfl : j = n := by omega
        have hltI : ¬ ((j : Int) < (j : Int)) := by omega
        go_wp2_with fail
        go_ret
        exact ⟨congrArg (fun x => Ending.returned (Value.bool x)) (HR.out.2 (eq_of_get j HA.out.1 HB.out.1 HE.out)).symm, HBl⟩
  · have hnmI : ¬ ((n : Int) = (m : Int)) := by omega
    go_enter Tryd.func19, Tryd.ntmps19
    go_wp2_with fail
    go_ret
    refine ⟨?_, Lib.hid (Below.refl _ _)⟩
    cases r with
    | false => rfl
    | true =>
      exfalso
      have h1 := congrArg List.length (HR.out.1 rfl)
      rw [List.length_map, HA.out.1, HB.out.1] at h1
      exact hnm h1
end Go.Proofs.YtfhgdcljhncjmaaDoor
