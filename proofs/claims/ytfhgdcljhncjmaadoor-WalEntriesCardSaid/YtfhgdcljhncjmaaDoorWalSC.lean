/- The document's Scan, of whatever sectors. -/
import Derived.Test.YtfhgdcljhncjmaaDoorWalSB
import Derived.Test.YtfhgdcljhncjmaaDoorReg5
namespace Go.Proofs.YtfhgdcljhncjmaaDoor
open Go.ChangeShapes Go.WideShapes Go.ChangeAt Go.RowKit
set_option linter.unusedVariables false
set_option maxRecDepth 20000

/-- so far all are so -/
def Gd (b : Bool) (P : Prop) : Prop := b = true ↔ P
theorem piece_take {ns : List ByteArray} (hf : Full ns) (p n j u : Nat) (h : p + 1 + j < ns.length) (hu : u = min 511 (n - 511 * j)) : ((sb ns (p + 1 + j)).drop 1).take u = piece ns p n j := by
  have hl := (sb_get hf _ h).2.1
  unfold piece
  by_cases h1 : n - 511 * j ≤ 511
  · rw [hu, Nat.min_eq_right h1]
  · rw [hu, Nat.min_eq_left (by omega), List.take_of_length_le (by rw [List.length_drop]; omega), List.take_of_length_le (by rw [List.length_drop]; omega)]
set_option maxHeartbeats 16000000 in
theorem scan_x (ns : List ByteArray) (f ct : Nat) (hct : 3 ≤ ct) (hct2 : ct ≤ 180) (hf : Full ns) (hfit : f + ct ≤ ns.length) (hL : f + ct ≤ 190) (gS c : Nat) (hc : ct ≤ c) (ag : Int) (hag : max (ageT (sb ns f)) (ageT (sb ns (f + 1))) = ag) (w : World) (hl : ∀ i, i < ct → w.cell? ⟨gS, i, none⟩ = some (.string (Fw.sv (sb ns (f + i))))) :
    Calls Tryd.prog 20 #[.slice (some ⟨gS, 0, none⟩) ct c] w fun e w' => ((ag = 0 ∧ e = .returned (.tuple #[.int .i64 0, .slice none 0 0, .int .i64 0])) ∨ (ag ≠ 0 ∧ ∃ (bs : List (List Nat)) (x : Nat) (v : Value), e = .returned (.tuple #[.int .i64 ag, v, .int .i64 (x : Int)]) ∧ Recs ns (f + ct) ag (f + 2) bs (f + x) ∧ readS ns (f + x) (f + ct) ag (bs.length : Int) = none ∧ Hid (w'.ownsRow w.heap.size 9 1 v bs.length (Fk.strs (bs.map Fc.sv)) ∧ (bs = [] → v = .slice none 0 0)))) ∧ Hid (Below w.heap.size w w') := by
  obtain ⟨_, l0, b0⟩ := sb_get hf f (by omega)
  obtain ⟨_, l1, b1⟩ := sb_get hf (f + 1) (by omega)
  have hi0 := ageT_in _ b0
  have hi1 := ageT_in _ b1
  obtain ⟨s0, hs0⟩ : ∃ s, Fw.sv (sb ns f) = s := ⟨_, rfl⟩
  obtain ⟨s1, hs1⟩ : ∃ s, Fw.sv (sb ns (f + 1)) = s := ⟨_, rfl⟩
  have HA0 := Lib.hid (fun W => ageOf_x _ l0 b0 s0 hs0 W)
  have HA1 := Lib.hid (fun W => ageOf_x _ l1 b1 s1 hs1 W)
  have HC : Hid (∀ W, Below w.heap.size w W → ∀ i, i < ct → W.cell? ⟨gS, i, none⟩ = some (.string (Fw.sv (sb ns (f + i))))) := Lib.hid fun W hW i hi => (hW.cell (World.block_lt_of_cell? w _ (hl i hi))).trans (hl i hi)
  have HC0 : Hid (∀ W, Below w.heap.size w W → W.cell? ⟨gS, 0, none⟩ = some (.string s0)) := Lib.hid fun W hW => by rw [← hs0]; exact HC.out W hW 0 (by omega)
  have HC1 : Hid (∀ W, Below w.heap.size w W → W.cell? ⟨gS, 1, none⟩ = some (.string s1)) := Lib.hid fun W hW => by rw [← hs1]; exact HC.out W hW 1 (by omega)
  obtain ⟨a0, ha0⟩ : ∃ a, ageT (sb ns f) = a := ⟨_, rfl⟩
  obtain ⟨a1, ha1⟩ : ∃ a, ageT (sb ns (f + 1)) = a := ⟨_, rfl⟩
  rw [ha0, ha1] at hag
  rw [ha0] at hi0 HA0
  rw [ha1] at hi1 HA1
  have hmx : (if a0 < a1 then a1 else a0) = ag := by rw [← hag]; split <;> omega
  have hmy : (if a1 < a0 then a0 else a1) = ag := by rw [← hag]; split <;> omega
  have hmz : (if a0 ≤ a1 then a1 else a0) = ag := by rw [← hag]; split <;> omega
  have hag0 : 0 ≤ ag ∧ ag ≤ 4611686018427387904 := by omega
  have hi00 : (0 : Int) < (ct : Int) := by omega
  have hct0 : ¬ (ct = 0) := by omega
  have hi11 : (1 : Int) < (ct : Int) := by omega
  have HF := Lib.hid hf
  clear hl hs0 hs1 ha0 ha1 l0 l1 b0 b1 hi0 hi1 hf
  go_enter Tryd.func20, Tryd.ntmps20
  go_wp2_with fail
  let R : World → World → Prop := fun W W2 => Below W.heap.size W W2
  let V : Nat → Value → World → Prop := fun jX v W => match jX with | 0 => v = .slice (some ⟨gS, 0, none⟩) ct c | 1 => v = .pointer (some ⟨gS, 0, none⟩) | 2 => v = .string s0 | 3 => v = .int .i64 a0 | 4 => v = .slice (some ⟨gS, 0, none⟩) ct c | 5 => v = .pointer (some ⟨gS, 1, none⟩) | 6 => v = .string s1 | 7 => v = .int .i64 a1 | 8 => v = .int .i64 ag | 9 => v = .int .i64 ag | _ => True
  refine wp_region_fill (by kernel_rfl) V (fun W => Below w.heap.size w W) R (by kernel_rfl) (by kernel_rfl) ((Below.refl _ _).drew) (fun W W2 hr hi => hi.trans (hr.mono hi.size)) ?_ ?_ ?_
  · intro jX v W W2 hr h
    match jX, h with
    | 0, h => exact h
    | 1, h => exact h
    | 2, h => exact h
    | 3, h => exact h
    | 4, h => exact h
    | 5, h => exact h
    | 6, h => exact h
    | 7, h => exact h
    | 8, h => exact h
    | 9, h => exact h
    | nX + 10, h => exact h
  · intro iX o ho a W hN hi h
    match iX, ho with
    | 0, ho =>
      obtain rfl := Option.some.inj (show some _ = some o from ho)
      have e0 : a.eval (.tmp 0) = .slice (some ⟨gS, 0, none⟩) ct c := hN.eval 0 (by kernel_rfl)
      refine fill_value (v := .slice (some ⟨gS, 0, none⟩) ct c) ho rfl (by rfl) (by clear h hN; have hcst : ∀ v, a.eval (.const v) = v := (fun _ => rfl); have hfun : ∀ f, a.eval (.func f) = .func (.func f) #[] #[] := (fun _ => rfl); generalize a.eval = ρ at *; go_simp) rfl (Below.refl _ _)
    | 1, ho =>
      obtain rfl := Option.some.inj (show some _ = some o from ho)
      have e18 : a.eval (.tmp 18) = .slice (some ⟨gS, 0, none⟩) ct c := h ⟨0, .data⟩ (by simp) rfl
      refine fill_value (v := .pointer (some ⟨gS, 0, none⟩)) ho rfl (by rfl) (by clear h hN; have hcst : ∀ v, a.eval (.const v) = v := (fun _ => rfl); have hfun : ∀ f, a.eval (.func f) = .func (.func f) #[] #[] := (fun _ => rfl); generalize a.eval = ρ at *; go_simp) rfl (Below.refl _ _)
    | 2, ho =>
      obtain rfl := Option.some.inj (show some _ = some o from ho)
      have e19 : a.eval (.tmp 19) = .pointer (some ⟨gS, 0, none⟩) := h ⟨1, .data⟩ (by simp) rfl
      have hc0 := HC0.out W hi
      refine fill_value (v := .string s0) ho rfl (by rfl) (by clear h hN; have hcst : ∀ v, a.eval (.const v) = v := (fun _ => rfl); have hfun : ∀ f, a.eval (.func f) = .func (.func f) #[] #[] := (fun _ => rfl); generalize a.eval = ρ at *; go_simp) rfl (Below.refl _ _)
    | 3, ho =>
      obtain rfl := Option.some.inj (show some _ = some o from ho)
      have e20 : a.eval (.tmp 20) = .string s0 := h ⟨2, .data⟩ (by simp) rfl
      refine fill_enter (f := 40) (args := #[.string s0]) ho rfl (by rfl) (by clear h hN; have hcst : ∀ v, a.eval (.const v) = v := (fun _ => rfl); have hfun : ∀ f, a.eval (.func f) = .func (.func f) #[] #[] := (fun _ => rfl); generalize a.eval = ρ at *; go_simp) (HA0.out W) ?_
      rintro e w2 ⟨rfl, h5⟩
      exact ⟨_, rfl, rfl, h5.out⟩
    | 4, ho =>
      obtain rfl := Option.some.inj (show some _ = some o from ho)
      have e0 : a.eval (.tmp 0) = .slice (some ⟨gS, 0, none⟩) ct c := hN.eval 0 (by kernel_rfl)
      refine fill_value (v := .slice (some ⟨gS, 0, none⟩) ct c) ho rfl (by rfl) (by clear h hN; have hcst : ∀ v, a.eval (.const v) = v := (fun _ => rfl); have hfun : ∀ f, a.eval (.func f) = .func (.func f) #[] #[] := (fun _ => rfl); generalize a.eval = ρ at *; go_simp) rfl (Below.refl _ _)
    | 5, ho =>
      obtain rfl := Option.some.inj (show some _ = some o from ho)
      have e22 : a.eval (.tmp 22) = .slice (some ⟨gS, 0, none⟩) ct c := h ⟨4, .data⟩ (by simp) rfl
      refine fill_value (v := .pointer (some ⟨gS, 1, none⟩)) ho rfl (by rfl) (by clear h hN; have hcst : ∀ v, a.eval (.const v) = v := (fun _ => rfl); have hfun : ∀ f, a.eval (.func f) = .func (.func f) #[] #[] := (fun _ => rfl); generalize a.eval = ρ at *; go_simp) rfl (Below.refl _ _)
    | 6, ho =>
      obtain rfl := Option.some.inj (show some _ = some o from ho)
      have e23 : a.eval (.tmp 23) = .pointer (some ⟨gS, 1, none⟩) := h ⟨5, .data⟩ (by simp) rfl
      have hc1 := HC1.out W hi
      refine fill_value (v := .string s1) ho rfl (by rfl) (by clear h hN; have hcst : ∀ v, a.eval (.const v) = v := (fun _ => rfl); have hfun : ∀ f, a.eval (.func f) = .func (.func f) #[] #[] := (fun _ => rfl); generalize a.eval = ρ at *; go_simp) rfl (Below.refl _ _)
    | 7, ho =>
      obtain rfl := Option.some.inj (show some _ = some o from ho)
      have e24 : a.eval (.tmp 24) = .string s1 := h ⟨6, .data⟩ (by simp) rfl
      refine fill_enter (f := 40) (args := #[.string s1]) ho rfl (by rfl) (by clear h hN; have hcst : ∀ v, a.eval (.const v) = v := (fun _ => rfl); have hfun : ∀ f, a.eval (.func f) = .func (.func f) #[] #[] := (fun _ => rfl); generalize a.eval = ρ at *; go_simp) (HA1.out W) ?_
      rintro e w2 ⟨rfl, h5⟩
      exact ⟨_, rfl, rfl, h5.out⟩
    | 8, ho =>
      obtain rfl := Option.some.inj (show some _ = some o from ho)
      have e21 : a.eval (.tmp 21) = .int .i64 a0 := h ⟨3, .data⟩ (by simp) rfl
      have e25 : a.eval (.tmp 25) = .int .i64 a1 := h ⟨7, .data⟩ (by simp) rfl
      refine fill_value (v := .int .i64 ag) ho rfl (by rfl) (by clear h hN; have hcst : ∀ v, a.eval (.const v) = v := (fun _ => rfl); have hfun : ∀ f, a.eval (.func f) = .func (.func f) #[] #[] := (fun _ => rfl); generalize a.eval = ρ at *; go_simp) rfl (Below.refl _ _)
    | 9, ho =>
      obtain rfl := Option.some.inj (show some _ = some o from ho)
      have e26 : a.eval (.tmp 26) = .int .i64 ag := h ⟨8, .data⟩ (by simp) rfl
      refine fill_value (v := .int .i64 ag) ho rfl (by rfl) (by clear h hN; have hcst : ∀ v, a.eval (.const v) = v := (fun _ => rfl); have hfun : ∀ f, a.eval (.func f) = .func (.func f) #[] #[] := (fun _ => rfl); generalize a.eval = ρ at *; go_simp) rfl (Below.refl _ _)
    | nX + 10, ho => exact absurd ho (by simp)
  · intro vals W hi h
    have u0 : vals 0 = .slice (some ⟨gS, 0, none⟩) ct c := h 0 (by decide)
    have u1 : vals 1 = .pointer (some ⟨gS, 0, none⟩) := h 1 (by decide)
    have u2 : vals 2 = .string s0 := h 2 (by decide)
    have u3 : vals 3 = .int .i64 a0 := h 3 (by decide)
    have u4 : vals 4 = .slice (some ⟨gS, 0, none⟩) ct c := h 4 (by decide)
    have u5 : vals 5 = .pointer (some ⟨gS, 1, none⟩) := h 5 (by decide)
    have u6 : vals 6 = .string s1 := h 6 (by decide)
    have u7 : vals 7 = .int .i64 a1 := h 7 (by decide)
    have u8 : vals 8 = .int .i64 ag := h 8 (by decide)
    have u9 : vals 9 = .int .i64 ag := h 9 (by decide)
    generalize hA : fill _ _ _ _ = A
    have hA2 : (Act.put (Act.put (Act.put (Act.put (Act.put (Act.put (Act.put (Act.put (Act.put (Act.put (_ : Act) (some 18) (vals 0)) (some 19) (vals 1)) (some 20) (vals 2)) (some 21) (vals 3)) (some 22) (vals 4)) (some 23) (vals 5)) (some 24) (vals 6)) (some 25) (vals 7)) (some 26) (vals 8)) (some 5) (vals 9)) = A := hA
    clear hA h V R
    rw [u0, u1, u2, u3, u4, u5, u6, u7, u8, u9] at hA2
    simp only [fill, Act.put, List.setIfInBounds_toArray, List.set_cons_succ, List.set_cons_zero] at hA2
    subst hA2
    clear u0 u1 u2 u3 u4 u5 u6 u7 u8 u9
    have HB1 := Lib.hid hi
    obtain ⟨w1, hw1⟩ : ∃ y, y = W := ⟨_, rfl⟩
    subst hw1
    clear hi HA0 HA1 HC0 HC1 hmx hmy hmz hag
    by_cases h0 : ag = 0
    · subst h0
      go_wp2_with fail
      go_ret3
      first
      | exact ⟨.inl ⟨rfl, rfl⟩, HB1⟩
      | exact ⟨rfl, HB1⟩
    · have hag1 : 1 ≤ ag := by omega
      have h0b : (ag == (0 : Int)) = false := by simp [h0]
      go_wp2_with fail
      go_loopw [6, 7] (fun o x wr => ∃ (bs : List (List Nat)) (q : Nat), x = .int .i64 (q : Int) ∧ 2 ≤ q ∧ q ≤ ct ∧ bs.length ≤ q ∧ Hid (True → Recs ns (f + ct) ag (f + 2) bs (f + q)) ∧ Hid (wr.ownsRow w.heap.size 9 1 o bs.length (Fk.strs (bs.map Fc.sv)) ∧ (bs = [] → o = .slice none 0 0)) ∧ Hid (Below w.heap.size w wr)) (fun _ x _ => ct - (intOf x).toNat)
      case atStart => exact ⟨[], 2, rfl, by omega, by omega, by simp, Lib.hid fun _ => .nil, Lib.hid ⟨World.ownsRow_nil _ _ _ _, fun _ => rfl⟩, HB1⟩
      case round =>
        obtain ⟨bs, q, rfl, hq2, hqc, hbq, HRec, HOwn, HB2⟩ := hrel
        obtain ⟨wo, rfl⟩ : ∃ wo : World, wo = wr := ⟨_, rfl⟩
        obtain ⟨oa, oc, hosl⟩ := own_sl HOwn.out.1
        subst hosl
        by_cases hq : q < ct
        · have hqI : (q : Int) < (ct : Int) := by omega
          obtain ⟨_, hlA, hbA⟩ := sb_get HF.out (f + q) (by omega)
          have c0 : wo.cell? ⟨gS, q, none⟩ = some (.string (Fw.sv (sb ns (f + q)))) := HC.out wo HB2.out q hq
          obtain ⟨s, hs⟩ : ∃ s, Fw.sv (sb ns (f + q)) = s := ⟨_, rfl⟩
          have hsz : s.size = 512 := by rw [← hs, Fw.sv_size, hlA]
          obtain ⟨x0, hx0⟩ : ∃ x : Nat, (sb ns (f + q)).getD 0 0 = x := ⟨_, rfl⟩
          have hix : ∀ W, (Instr.index 9 (.string s) (.int .i64 0)).run Tryd.prog W = .ok (.int .u8 (x0 : Int)) W := fun W => by
            rw [run_index_string W 9 s .i64 0 Tryd.underlying9, dif_pos (by omega)]
            have h2 := Fw.bytesOf_get s 0 (by omega)
            have h3 : Fw.bytesOf s = sb ns (f + q) := by rw [← hs]; exact bytesOf_sv _ hbA
            rw [h3, hx0] at h2
            rw [h2]
            rfl
          rw [hs] at c0
          have HNone : Hid (x0 ≠ 72 → readS ns (f + q) (f + ct) ag (bs.length : Int) = none) := Lib.hid fun h => readS_none HF.out _ _ (by omega) hfit ag _ ⟨by omega, by omega⟩ ⟨by omega, by omega⟩ fun _ a' n' c' s' _ _ _ _ _ e => h (by rw [← hx0, e]; simp [padL, firstL])
          by_cases h72 : x0 = 72
          · subst h72
            obtain ⟨s1, hs1⟩ : ∃ s, Fw.sv ((sb ns (f + q)).drop 1) = s := ⟨_, rfl⟩
            have hsl : ∀ W, (Instr.slice 9 (.string s) (some (.int .i64 1)) none none).run Tryd.prog W = .ok (.string s1) W := fun W => by
              have e1 : s.extract 1 s.size = s1 := by rw [← hs, ← hs1]; exact Fc.sv_drop _ 1
              rw [run_slice_string_from_if W 9 s .i64 1 Tryd.underlying9, if_pos (by omega), ← e1]
              rfl
            have i0 : InOk ((sb ns (f + q)).drop 1) := ⟨by rw [List.length_drop]; omega, drop_byte hbA 1⟩
            obtain ⟨a, L1, e1, n1⟩ : ∃ v L e, numS 1 4611686018427387904 ((sb ns (f + q)).drop 1, 0) = (v, L, e) := ⟨_, _, _, rfl⟩
            obtain ⟨n, L2, e2, n2⟩ : ∃ v L e, numS 0 4611686018427387904 (L1, e1) = (v, L, e) := ⟨_, _, _, rfl⟩
            obtain ⟨z, L3, e3, n3⟩ : ∃ v L e, numS 0 16777216 (L2, e2) = (v, L, e) := ⟨_, _, _, rfl⟩
            obtain ⟨y, L4, e4, n4⟩ : ∃ v L e, numS 0 4294967296 (L3, e3) = (v, L, e) := ⟨_, _, _, rfl⟩
            have i1 := numS_ok i0 n1
            have i2 := numS_ok i1 n2
            have i3 := numS_ok i2 n3
            have HD : Hid (hdR (sb ns (f + q)) = (a, n, z, e4)) := Lib.hid (by unfold hdR; simp only [n1, n2, n3, n4])
            have HZ : Hid (e4 = 0 → 0 ≤ z ∧ z ≤ 16777216) := Lib.hid fun h => (numS_in n3 (numS_in n4 h).1).2
            have HN1 : Hid (∀ W gi, Hid (Fw.RBox W gi s1 0) → Calls Tryd.prog 41 #[.pointer (some ⟨gi, 0, none⟩), .int .i64 1, .int .i64 4611686018427387904] W fun e w' => e = .returned (.int .i64 a) ∧ Hid (Fw.RBox w' gi (Fw.sv L1) e1) ∧ Hid (Below gi W w')) := Lib.hid fun W gi hb => refNumS _ _ _ _ _ _ _ n1 i0 W gi (by rw [hs1]; exact hb)
            have HN2 := Lib.hid (fun W gi => refNumS _ _ _ _ _ _ _ n2 i1 W gi)
            have HN3 := Lib.hid (fun W gi => refNumS _ _ _ _ _ _ _ n3 i2 W gi)
            have HN4 := Lib.hid (fun W gi => refNumS _ _ _ _ _ _ _ n4 i3 W gi)
            clear n1 n2 n3 n4 i0 i1 i2 i3 hs1
            go_wp2_with fail
            generalize h1 : World.alloc wo _ = w3
            have HB3 : Hid (Below wo.heap.size wo w3) := Lib.hid (by rw [← h1]; exact (Below.refl _ _).alloc (Nat.le_refl _) _)
            have HR3 : Hid (Fw.RBox w3 wo.heap.size s1 0) := Lib.hid (by rw [← h1]; exact al_new _ _ _ rfl)
            clear h1 hsl hix
            refine (HN1.out w3 _ HR3).mono ?_
            rintro e w4 ⟨rfl, HR4, HB4⟩
            go_wp2_with fail
            refine (HN2.out w4 _ HR4).mono ?_
            rintro e w5 ⟨rfl, HR5, HB5⟩
            go_wp2_with fail
            refine (HN3.out w5 _ HR5).mono ?_
            rintro e w6 ⟨rfl, HR6, HB6⟩
            go_wp2_with fail
            refine (HN4.out w6 _ HR6).mono ?_
            rintro e w7 ⟨rfl, HR7, HB7⟩
            have HB8 : Hid (Below wo.heap.size wo w7) := Lib.hid ((((HB3.out.trans HB4.out).trans HB5.out).trans HB6.out).trans HB7.out)
            have HBz : Hid (Below w.heap.size w w7) := Lib.hid (HB2.out.trans (HB8.out.mono HB2.out.size))
            have HOz : Hid (w7.ownsRow w.heap.size 9 1 (.slice oa bs.length oc) bs.length (Fk.strs (bs.map Fc.sv)) ∧ (bs = [] → Value.slice oa bs.length oc = .slice none 0 0)) := Lib.hid ⟨own_past HOwn.out.1 HB8.out, HOwn.out.2⟩
            have x1 : w7.cell? ⟨wo.heap.size, 1, none⟩ = some (.int .i64 e4) := Fw.box_cell1 HR7.out
            have HNo : Hid (¬ (e4 = 0 ∧ a = ag ∧ n = (bs.length : Int) ∧ ∃ m : Nat, z = (m : Int) ∧ need m ≤ f + ct - (f + q)) → readS ns (f + q) (f + ct) ag (bs.length : Int) = none) := Lib.hid fun h => scan_no HF.out _ _ (by omega) hfit (by omega) ag _ hag1 hag0.2 (by omega) (by omega) a n z e4 HD.out h
            clear HN1 HN2 HN3 HN4 HR3 HR4 HR5 HR6 HR7 HB3 HB4 HB5 HB6 HB7 HNone
            by_cases he4 : e4 = 0
            · subst he4
              obtain ⟨m, rfl⟩ : ∃ m : Nat, z = (m : Int) := ⟨z.toNat, by have := HZ.out rfl; omega⟩
              have hm0 : m ≤ 16777216 := by have := (HZ.out rfl).2; omega
              by_cases hag2 : a = ag
              · subst hag2
                by_cases hnb : n = (bs.length : Int)
                · subst hnb
                  have HNd := Lib.hid (fun W => needR_any m (by omega) W)
                  have hcq : IntKind.i64.wrap ((ct : Int) - (q : Int)) = (ct : Int) - (q : Int) := by rw [IntKind.wrap_i64]; omega
                  obtain ⟨nd, hnd⟩ : ∃ nd, need m = nd := ⟨_, rfl⟩
                  rw [hnd] at HNd
                  go_wp2_with fail
                  refine (HNd.out w7).mono ?_
                  rintro e w8 ⟨rfl, rfl⟩
                  by_cases hfi : nd ≤ ct - q
                  · have hfiI : ¬ ((ct : Int) - (q : Int) < (nd : Int)) := by omega
                    have hm1 : m ≤ 100000 := need_mono (b := 190) (by omega) (Nat.le_refl _)
                    have HNp : Hid (True → nd = 1 + nparts m) := Lib.hid fun _ => by rw [← hnd]; exact need_parts m
                    have hnd1 : 1 ≤ nd := by have := HNp.out trivial; omega
                    have HY : Hid (readS ns (f + q) (f + ct) a (bs.length : Int) = if PartsOk ns (f + q) m ∧ sb ns (f + q) = padL (firstL a (bs.length : Int) (m : Int) ((Fc.crcOf (buf ns (f + q) m (nparts m)) : Nat) : Int)) then some (buf ns (f + q) m (nparts m)) else none) := Lib.hid (scan_yes HF.out _ _ (by omega) hfit (by omega) a _ hag1 hag0.2 (by omega) (by omega) m HD.out (by omega))
                    clear HNo HD HZ
                    go_wp2_with fail
                    go_loopw [13, 14, 15] (fun bv gv kv wr => ∃ (j k bl : Nat) (ba : Option Addr) (bc : Nat) (gd : Bool), bv = .slice ba bl bc ∧ gv = .bool gd ∧ kv = .int .i64 (k : Int) ∧ j ≤ nparts m ∧ Hid (k = j + 1) ∧ Hid (bl = min m (511 * j)) ∧ Hid (Gd gd (∀ i, i < j → sb ns (f + q + 1 + i) = padL (partL (piece ns (f + q) m i)))) ∧ Hid (wr.ownsRow w7.heap.size 5 1 (.slice ba bl bc) bl (Fw.cells (buf ns (f + q) m j))) ∧ Hid (Below w7.heap.size w7 wr)) (fun _ _ k _ => nd - (intOf k).toNat)
                    case atStart => exact ⟨0, 1, 0, none, 0, true, rfl, rfl, rfl, by omega, Lib.hid rfl, Lib.hid (by simp), Lib.hid ⟨fun _ i hi => by omega, fun _ => rfl⟩, Lib.hid (World.ownsRow_nil _ _ _ _), Lib.hid (Below.refl _ _)⟩
                    case round =>
                      obtain ⟨j, k, bl, ba, bc, gd, rfl, rfl, rfl, hjn, HK, HBl, HGd, HOb, HBb⟩ := hrel
                      obtain ⟨wi, rfl⟩ : ∃ wi : World, wi = wr := ⟨_, rfl⟩
                      go_wp2_with fail
                      refine (HNd.out wi).mono ?_
                      rintro e w8 ⟨rfl, rfl⟩
                      by_cases hjm : j < nparts m
                      · have hjI : (k : Int) < (nd : Int) := by have := HK.out; have := HNp.out trivial; omega
                        obtain ⟨r, hr⟩ : ∃ r, q + k = r := ⟨_, rfl⟩
                        have hr2 : r = q + 1 + j := by have := HK.out; omega
                        have HK2 : Hid (k + 1 = j + 1 + 1) := Lib.hid (by have := HK.out; omega)
                        have hwk : IntKind.i64.wrap ((q : Int) + (k : Int)) = (r : Int) := by rw [IntKind.wrap_i64]; omega
                        have hwk2 : IntKind.i64.wrap ((k : Int) + 1) = ((k + 1 : Nat) : Int) := by rw [IntKind.wrap_i64]; have := HK.out; omega
                        have hqj : (r : Int) < (ct : Int) := by have := HNp.out trivial; omega
                        have hlt : f + q + 1 + j < ns.length := by have := HNp.out trivial; omega
                        obtain ⟨_, hlP, hbP⟩ := sb_get HF.out (f + q + 1 + j) hlt
                        have c1 : wi.cell? ⟨gS, r, none⟩ = some (.string (Fw.sv (sb ns (f + q + 1 + j)))) := by
                          have := HC.out wi (HBz.out.trans (HBb.out.mono HBz.out.size)) r (by omega)
                          rw [this, hr2, show f + (q + 1 + j) = f + q + 1 + j by omega]
                        have hbl : bl = 511 * j := by have := HBl.out; unfold nparts at hjm; omega
                        obtain ⟨u, hu⟩ : ∃ u, u = min 511 (m - 511 * j) := ⟨_, rfl⟩
                        have hu5 : u ≤ 511 := by omega
                        have hwb : IntKind.i64.wrap ((m : Int) - (bl : Int)) = ((m - 511 * j : Nat) : Int) := by rw [IntKind.wrap_i64]; unfold nparts at hjm; omega
                        obtain ⟨y, hy⟩ : ∃ y, m - 511 * j = y := ⟨_, rfl⟩
                        rw [hy] at hwb hu
                        have hm1 : min (511 : Int) (y : Int) = (u : Int) := by omega
                        have hm2 : (if (y : Int) < 511 then (y : Int) else 511) = (u : Int) := by split <;> omega
                        have hwu : IntKind.i64.wrap (1 + (u : Int)) = 1 + (u : Int) := by rw [IntKind.wrap_i64]; omega
                        obtain ⟨pL, hpL⟩ : ∃ p, piece ns (f + q) m j = p := ⟨_, rfl⟩
                        have hpt : ((sb ns (f + q + 1 + j)).drop 1).take u = pL := by rw [← hpL]; exact piece_take HF.out _ _ _ _ hlt (by rw [hu, hy])
                        have hpl : pL.length = u := by rw [← hpt, List.length_take, List.length_drop]; omega
                        have hpb : ∀ x ∈ pL, x < 256 := by rw [← hpL]; exact piece_byte _ _ _ _
                        obtain ⟨s2, hs2⟩ : ∃ s, Fw.sv (sb ns (f + q + 1 + j)) = s := ⟨_, rfl⟩
                        have hz2 : s2.size = 512 := by rw [← hs2, Fw.sv_size, hlP]
                        obtain ⟨pc, hpc⟩ : ∃ p, Fw.sv pL = p := ⟨_, rfl⟩
                        have hsl3 : ∀ W, (Instr.slice 9 (.string s2) (some (.int .i64 1)) (some (.int .i64 (1 + (u : Int)))) none).run Tryd.prog W = .ok (.string pc) W := fun W => by
                          have e1 : s2.extract 1 (1 + u) = pc := by
                            rw [← hs2, ← hpc, ← hpt]
                            apply ByteArray.ext
                            apply Array.toList_inj.1
                            have e9 : ∀ M : List UInt8, (M.take (1 + u)).tail = M.tail.take u := fun M => by cases M <;> simp [Nat.add_comm 1 u]
                            simp only [Fw.sv, strOfNums, ByteArray.data_extract, Array.toList_extract, List.map_take, List.map_drop]
                            simp
                            try rw [e9]
                          rw [run_slice_string W 9 s2 .i64 .i64 1 (1 + (u : Int)) Tryd.underlying9 (by decide) (by omega) (by omega)]
                          have e2 : (1 + (u : Int)).toNat = 1 + u := by omega
                          rw [e2]
                          show Result.ok (Value.string (s2.extract 1 (1 + u))) W = _
                          rw [e1]
                        obtain ⟨dp, hdp⟩ : ∃ p, Fc.sv (partL pL) = p := ⟨_, rfl⟩
                        obtain ⟨tp, htp⟩ : ∃ p, Fc.sv (padL (partL pL)) = p := ⟨_, rfl⟩
                        have hadd : ∀ w, (Op.stringOp .add ⟨#[68]⟩ pc).run Tryd.prog w = .ok (.string dp) w := fun w => by
                          rw [← hpc, ← hdp]
                          exact Fw.sv_add [68] _ (by simp; omega) w
                        have HPad := Lib.hid (fun W => pad_x (partL pL) (by rw [part_len]; omega) dp tp hdp htp W)
                        have HEq : Hid (s2 = tp ↔ sb ns (f + q + 1 + j) = padL (partL (piece ns (f + q) m j))) := Lib.hid (by
                          rw [hpL]
                          exact ⟨fun e => Fc.sv_inj hbP (padL_byte (part_byte hpb)) (by show Fw.sv _ = _; rw [hs2, htp]; exact e), fun e => by rw [← hs2, ← htp, e]; rfl⟩)
                        have HBf : Hid (buf ns (f + q) m (j + 1) = buf ns (f + q) m j ++ pL) := Lib.hid (by rw [buf, hpL])
                        have HBl2 : Hid (bl + u = min m (511 * (j + 1))) := Lib.hid (by unfold nparts at hjm; omega)
                        rw [hs2] at c1
                        have HApp : Hid (∀ W, Below wi.heap.size wi W → ∃ ba' bc' w', (Builtin.append_ #[34, 9] 34 #[.slice ba bl bc, .string pc]).run Tryd.prog W = .ok (.slice ba' (bl + u) bc') w' ∧ Hid (w'.ownsRow w7.heap.size 5 1 (.slice ba' (bl + u) bc') (bl + u) (Fw.cells (buf ns (f + q) m (j + 1)))) ∧ Hid (Below w7.heap.size w7 w')) := Lib.hid fun W hW => by
                          obtain ⟨v', w', hr, h1, h2⟩ := app_text (own_past HOb.out hW) (Nat.le_trans HBb.out.size hW.size) hpb (by rw [hpl]; omega) 34
                          obtain ⟨ba', bc', rfl⟩ := own_sl h1
                          rw [hpl] at h1 hr
                          refine ⟨ba', bc', w', by rw [← hpc]; exact hr, Lib.hid (by rw [HBf.out]; exact h1), Lib.hid ((HBb.out.trans (hW.mono HBb.out.size)).trans h2)⟩
                        clear hr hr2 hlP hbP hbl hu hy hpt hpl hpb hs2 hpc hdp htp hpL HBl HOb HBf
                        cases gd with
                        | true =>
                          go_wp2_with fail
                          refine (HPad.out wi).mono ?_
                          rintro e w9 ⟨rfl, HB9⟩
                          obtain ⟨ba', bc', wz, hrun, HOn, HBn⟩ := HApp.out w9 HB9.out
                          by_cases hst : s2 = tp
                          · subst hst
                            have HG2 : Hid (Gd true (∀ i, i < j + 1 → sb ns (f + q + 1 + i) = padL (partL (piece ns (f + q) m i)))) := Lib.hid ⟨fun _ i hi => by
                              rcases Nat.lt_or_ge i j with h | h
                              · exact HGd.out.1 rfl i h
                              · obtain rfl : i = j := by omega
                                exact HEq.out.1 rfl, fun _ => rfl⟩
                            clear HApp HPad HEq HGd
                            go_wp2_with (at_builtin; refine Lib.wpList_append_run _ rfl _ _ _ _ rfl _ _ rfl rfl _ _ hrun ?_)
                            go_roundw
                            case rel => exact ⟨j + 1, k + 1, bl + u, ba', bc', true, rfl, rfl, by go_num, by omega, HK2, HBl2, HG2, HOn, HBn⟩
                            case measure => simp [intOf]; omega
                          · have HG2 : Hid (Gd false (∀ i, i < j + 1 → sb ns (f + q + 1 + i) = padL (partL (piece ns (f + q) m i)))) := Lib.hid ⟨(fun h => by cases h), fun h => absurd (HEq.out.2 (h j (by omega))) hst⟩
                            have hbe : (s2.toList == tp.toList) = false := txt_ne hst
                            clear HApp HPad HEq HGd
                            go_wp2_with (at_builtin; refine Lib.wpList_append_run _ rfl _ _ _ _ rfl _ _ rfl rfl _ _ hrun ?_)
                            all_goals
                              go_roundw
                              case rel => exact ⟨j + 1, k + 1, bl + u, ba', bc', false, rfl, rfl, by go_num, by omega, HK2, HBl2, HG2, HOn, HBn⟩
                              case measure => simp [intOf]; omega
                        | false =>
                          obtain ⟨ba', bc', wz, hrun, HOn, HBn⟩ := HApp.out wi (Below.refl _ _)
                          have HG2 : Hid (Gd false (∀ i, i < j + 1 → sb ns (f + q + 1 + i) = padL (partL (piece ns (f + q) m i)))) := Lib.hid ⟨(fun h => by cases h), fun h => HGd.out.2 fun i hi => h i (by omega)⟩
                          clear HApp HPad HEq HGd
                          go_wp2_with (at_builtin; refine Lib.wpList_append_run _ rfl _ _ _ _ rfl _ _ rfl rfl _ _ hrun ?_)
                          go_roundw
                          case rel => exact ⟨j + 1, k + 1, bl + u, ba', bc', false, rfl, rfl, by go_num, by omega, HK2, HBl2, HG2, HOn, HBn⟩
                          case measure => simp [intOf]; omega
                      · obtain rfl : j = nparts m := by omega
                        have hjI : ¬ ((k : Int) < (nd : Int)) := by have := HK.out; have := HNp.out trivial; omega
                        have hbl : bl = m := by have := HBl.out; unfold nparts at this; omega
                        subst hbl
                        have hwq : IntKind.i64.wrap ((q : Int) + (nd : Int)) = ((q + nd : Nat) : Int) := by rw [IntKind.wrap_i64]; omega
                        have HBy : Hid (Below w.heap.size w wi) := Lib.hid (HBz.out.trans (HBb.out.mono HBz.out.size))
                        have HOy : Hid (wi.ownsRow w.heap.size 9 1 (.slice oa bs.length oc) bs.length (Fk.strs (bs.map Fc.sv)) ∧ (bs = [] → Value.slice oa bs.length oc = .slice none 0 0)) := Lib.hid ⟨own_past HOz.out.1 HBb.out, HOz.out.2⟩
                        cases gd with
                        | true =>
                          obtain ⟨Bf, hBf⟩ : ∃ B, buf ns (f + q) bl (nparts bl) = B := ⟨_, rfl⟩
                          have hBl : Bf.length = bl := by
                            have h1 := HOb.out.1
                            rw [hBf] at h1
                            simpa [Fw.cells] using h1
                          have hBb : ∀ x ∈ Bf, x < 256 := by rw [← hBf]; exact buf_byte _ _ _ _
                          obtain ⟨tB, htB⟩ : ∃ t, Fc.sv Bf = t := ⟨_, rfl⟩
                          have hcv : ∀ W, Below wi.heap.size wi W → (convert 34 9 (.slice ba bl bc)).run Tryd.prog W = .ok (.string tB) W := fun W hW => by
                            have h1 := own_past HOb.out hW
                            rw [hBf] at h1
                            rw [← htB]
                            exact own_conv h1 hBl
                          have hcv0 := hcv wi (Below.refl _ _)
                          obtain ⟨tF, htF⟩ : ∃ t, Fc.sv (padL (firstL a (bs.length : Int) (bl : Int) ((Fc.crcOf Bf : Nat) : Int))) = t := ⟨_, rfl⟩
                          have HFi := Lib.hid (fun W => refFirst_x a (bs.length : Int) ⟨by omega, by omega⟩ ⟨by omega, by omega⟩ Bf bl hBl (by omega) hBb tB tF htB htF W)
                          have HEq : Hid (s = tF ↔ sb ns (f + q) = padL (firstL a (bs.length : Int) (bl : Int) ((Fc.crcOf Bf : Nat) : Int))) := Lib.hid ⟨fun e => Fc.sv_inj hbA (padL_byte (first_byte _ _ _ _)) (by show Fw.sv _ = _; rw [hs, htF]; exact e), fun e => by rw [← hs, ← htF, ← e]; rfl⟩
                          rw [hBf] at HY
                          have HP : Hid (PartsOk ns (f + q) bl) := Lib.hid fun i hi => HGd.out.1 rfl i hi
                          go_wp2_with fail
                          refine (HFi.out wi).mono ?_
                          rintro e w9 ⟨rfl, HB9⟩
                          by_cases hst : s = tF
                          · have HSome : Hid (readS ns (f + q) (f + ct) a (bs.length : Int) = some Bf) := Lib.hid (by rw [HY.out, if_pos ⟨HP.out, HEq.out.1 hst⟩])
                            have hcv9 := hcv w9 HB9.out
                            have hal : Below w9.heap.size w9 (w9.alloc (.cells #[.string tB] 9)) := (Below.refl _ _).alloc (Nat.le_refl _) _
                            have hsz9 : w.heap.size ≤ w9.heap.size := Nat.le_trans HBy.out.size HB9.out.size
                            obtain ⟨v', w', hrun, hov, hrk⟩ := app_some (own_past (own_past HOy.out.1 HB9.out) hal) (Nat.le_trans hsz9 hal.size) (fun h => ⟨none, by rw [HOy.out.2 (List.eq_nil_of_length_eq_zero h)]⟩) ⟨w9.heap.size, 0, none⟩ 1 1 [tB] rfl (one_at (own_one w9 (Nat.le_refl _) tB)) (by omega) (by decide) 33
                            have HOn : Hid (w'.ownsRow w.heap.size 9 1 v' (bs ++ [Bf]).length (Fk.strs ((bs ++ [Bf]).map Fc.sv)) ∧ (bs ++ [Bf] = [] → v' = .slice none 0 0)) := Lib.hid ⟨by
                              have e1 : Fk.strs ((bs ++ [Bf]).map Fc.sv) = Fk.strs (bs.map Fc.sv) ++ Fk.strs [tB] := by simp [Fk.strs, htB]
                              rw [e1, List.length_append]
                              exact hov, fun h => by simp at h⟩
                            have HBn : Hid (Below w.heap.size w w') := Lib.hid (((HBy.out.trans (HB9.out.mono HBy.out.size)).trans (hal.mono hsz9)).trans (hrk 0 (by omega)).1)
                            have HRn : Hid (True → Recs ns (f + ct) a (f + 2) (bs ++ [Bf]) (f + (q + nd))) := Lib.hid fun _ => by
                              have h1 := Recs.snoc (HRec.out trivial) HSome.out
                              rw [hBl, hnd] at h1
                              rw [show f + (q + nd) = f + q + nd by omega]
                              exact h1
                            clear hov hrk hal HFi HEq HY HP HSome
                            subst hst
                            go_wp2_with (at_builtin; refine Lib.wpList_append_run _ rfl _ _ _ _ rfl _ _ rfl rfl _ _ hrun ?_)
                            refine (HNd.out w').mono ?_
                            rintro e w10 ⟨rfl, rfl⟩
                            go_wp2_with fail
                            go_roundw
                            case rel =>
                              exact ⟨bs ++ [Bf], q + nd, by go_num, by omega, by omega, by simp; omega, HRn, HOn, HBn⟩
                            case measure => simp [intOf]; omega
                          · have hno : readS ns (f + q) (f + ct) a (bs.length : Int) = none := by
                              rw [HY.out, if_neg fun h => hst (HEq.out.2 h.2)]
                            have HBx : Hid (Below w.heap.size w w9) := Lib.hid (HBy.out.trans (HB9.out.mono HBy.out.size))
                            have HOx : Hid (w9.ownsRow w.heap.size 9 1 (.slice oa bs.length oc) bs.length (Fk.strs (bs.map Fc.sv)) ∧ (bs = [] → Value.slice oa bs.length oc = .slice none 0 0)) := Lib.hid ⟨own_past HOy.out.1 HB9.out, HOy.out.2⟩
                            have hbe : (s.toList == tF.toList) = false := txt_ne hst
                            clear HFi HEq HY HP
                            go_wp2_with fail
                            all_goals
                              go_ret3
                              first
                              | exact ⟨.inr ⟨h0, bs, q, _, rfl, HRec.out trivial, hno, HOx⟩, HBx⟩
                              | exact ⟨⟨bs, q, _, rfl, HRec.out trivial, hno, HOx⟩, HBx⟩
                        | false =>
                          have hno : readS ns (f + q) (f + ct) a (bs.length : Int) = none := by
                            rw [HY.out, if_neg fun h => by
                              have := HGd.out.2 fun i hi => h.1 i hi
                              cases this]
                          clear HY
                          go_wp2_with fail
                          go_ret3
                          first
                          | exact ⟨.inr ⟨h0, bs, q, _, rfl, HRec.out trivial, hno, HOy⟩, HBy⟩
                          | exact ⟨⟨bs, q, _, rfl, HRec.out trivial, hno, HOy⟩, HBy⟩
                  · have hfiI : (ct : Int) - (q : Int) < (nd : Int) := by omega
                    have hno := HNo.out (by rintro ⟨_, _, _, m', h1, h2⟩; rw [← Int.ofNat.inj h1, hnd] at h2; omega)
                    clear HNo HD HZ
                    go_wp2_with fail
                    go_ret3
                    first
                    | exact ⟨.inr ⟨h0, bs, q, _, rfl, HRec.out trivial, hno, HOz⟩, HBz⟩
                    | exact ⟨⟨bs, q, _, rfl, HRec.out trivial, hno, HOz⟩, HBz⟩
                · have hno := HNo.out (by rintro ⟨_, _, h1, _⟩; exact hnb h1)
                  clear HNo HD HZ
                  go_wp2_with fail
                  go_ret3
                  first
                  | exact ⟨.inr ⟨h0, bs, q, _, rfl, HRec.out trivial, hno, HOz⟩, HBz⟩
                  | exact ⟨⟨bs, q, _, rfl, HRec.out trivial, hno, HOz⟩, HBz⟩
              · have hno := HNo.out (by rintro ⟨_, h1, _⟩; exact hag2 h1)
                clear HNo HD HZ
                go_wp2_with fail
                go_ret3
                first
                | exact ⟨.inr ⟨h0, bs, q, _, rfl, HRec.out trivial, hno, HOz⟩, HBz⟩
                | exact ⟨⟨bs, q, _, rfl, HRec.out trivial, hno, HOz⟩, HBz⟩
            · have hno := HNo.out (by rintro ⟨h1, _⟩; exact he4 h1)
              clear HNo HD HZ
              go_wp2_with fail
              go_ret3
              first
              | exact ⟨.inr ⟨h0, bs, q, _, rfl, HRec.out trivial, hno, HOz⟩, HBz⟩
              | exact ⟨⟨bs, q, _, rfl, HRec.out trivial, hno, HOz⟩, HBz⟩
          · have h72I : ¬ ((x0 : Int) = 72) := by omega
            have hno := HNone.out h72
            go_wp2_with fail
            all_goals
              go_ret3
              first
              | exact ⟨.inr ⟨h0, bs, q, _, rfl, HRec.out trivial, hno, HOwn⟩, HB2⟩
              | exact ⟨⟨bs, q, _, rfl, HRec.out trivial, hno, HOwn⟩, HB2⟩
        · obtain rfl : q = ct := by omega
          have hqI : ¬ ((q : Int) < (q : Int)) := by omega
          have hno : readS ns (f + q) (f + q) ag (bs.length : Int) = none := by unfold readS; rw [if_pos rfl]
          go_wp2_with fail
          go_ret3
          first
          | exact ⟨.inr ⟨h0, bs, q, _, rfl, HRec.out trivial, hno, HOwn⟩, HB2⟩
          | exact ⟨⟨bs, q, _, rfl, HRec.out trivial, hno, HOwn⟩, HB2⟩
