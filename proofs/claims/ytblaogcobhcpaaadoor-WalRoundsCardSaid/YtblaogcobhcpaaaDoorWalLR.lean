/- WalRounds. -/
import Derived.Test.YtblaogcobhcpaaaDoorWalZC
import Derived.Test.YtblaogcobhcpaaaDoorReg4
namespace Go.Proofs.YtblaogcobhcpaaaDoor
open Go.ChangeShapes Go.WideShapes Go.ChangeAt Go.RowKit
set_option linter.unusedVariables false
set_option maxRecDepth 20000

set_option maxHeartbeats 4000000 in
theorem rounds_mid (a0 : Int) (sp : Option Addr) (len cap : Nat) (w : World) (hG : 0 < w.heap.size) (ht : Hid (Fc.Tab w)) (q : Nat) (hq : q ≤ 600) (hql : q ≤ len) (hlc : len ≤ cap) (hcm : cap ≤ 9223372036854775807) (hmin : min (len : Int) 600 = (q : Int)) (hmin2 : (if (600 : Int) < (len : Int) then 600 else (len : Int)) = (q : Int)) (b : List Nat) (hbl : b.length = q) (hbb : ∀ x ∈ b, x < 256) (hrow : Row8 w.heap.size w sp b) (hsp : sp = none → len = 0 ∧ cap = 0) :
    Calls Tryd.prog 9 #[.int .i64 a0, .slice sp len cap] w fun e w' => e = .returned (.bool true) ∧ Below w.heap.size w w' := by
  obtain ⟨r, hr, hr12⟩ := Fw.mod_cut1 a0 12 (by decide) (by decide)
  have HFr := Lib.hid (fresh_any w hG ht)
  have HGh := Lib.hid hG
  have HRow := Lib.hid hrow
  have HBb := Lib.hid hbb
  have HBl := Lib.hid (fun _ : True => hbl)
  have HSp := Lib.hid hsp
  have HQ : Hid (True → q ≤ cap) := Lib.hid fun _ => by omega
  obtain ⟨t0, ht0⟩ : ∃ t0, Fc.sv b = t0 := ⟨_, rfl⟩
  have HT0 := Lib.hid (fun _ : True => ht0)
  have hq0 : (q : Int) ≤ (len : Int) := by omega
  have hq1 : (q : Int) ≤ (cap : Int) := by omega
  have hr' : wrap64 ((IntKind.u64.wrap a0).tmod 12) = (r : Int) := hr
  clear hG hrow hbb hbl hsp ht0 hr
  cases sp with
  | none =>
    obtain ⟨rfl, rfl⟩ := HSp.out rfl
    obtain rfl : q = 0 := by omega
    go_enter Tryd.func9, Tryd.ntmps9
    go_wp2_with fail
    refine HFr.out.mono ?_
    rintro e w1 ⟨g, l, rfl, hL1, hb1⟩
    have HLog : Hid (Calls Tryd.prog 10 #[] w1 fun e w' => e = .returned (.bool true) ∧ Hid (Below w1.heap.size w1 w')) := Lib.hid (logs_any w1 (Nat.lt_of_lt_of_le HGh.out hb1.out.size) (Lib.hid (Fc.tab_later ht.out hb1.out)))
    go_wp2_with fail
    refine HLog.out.mono ?_
    rintro e w2 ⟨rfl, hb2⟩
    have HL2 : Hid (∃ s, Lg w.heap.size w2 g l 18 s 2 16 1 0 [] 4 20 ∧ Quiet s) := Lib.hid (by
      obtain ⟨s, h1, h2⟩ := hL1.out
      exact ⟨s, h1.below hb2.out, h2⟩)
    have HB2 := Lib.hid (hb1.out.trans (hb2.out.mono hb1.out.size))
    clear hL1 hb1 hb2 HFr HLog
    go_wp2_with fail
    rw [hr']
    rw [show (min (0 : Int) 600).toNat = 0 from rfl]
    go_loopw [6, 8] (fun lv i wr => ∃ j lj : Nat, lv = .pointer (some ⟨lj, 0, none⟩) ∧ i = .int .i64 (j : Int) ∧ j ≤ r ∧ Hid (∃ s hd, Lg w.heap.size wr g lj 18 s 2 16 ((j : Int) + 1) hd [] 4 (20 + 13 * j) ∧ Quiet s) ∧ Hid (Below w.heap.size w wr)) (fun _ i _ => r - (intOf i).toNat)
    case atStart => exact ⟨0, l, rfl, rfl, by omega, Lib.hid (HL2.out.elim fun s h => ⟨s, 0, h.1, h.2⟩), HB2⟩
    case round =>
      obtain ⟨j, lj, rfl, rfl, hj, hlg, hbl⟩ := hrel
      by_cases hlt : j < r
      · have hltI : (j : Int) < (r : Int) := by omega
        have hw1 : IntKind.i64.wrap ((j : Int) + 1) = ((j + 1 : Nat) : Int) := by rw [IntKind.wrap_i64]; omega
        have hwb : IntKind.u8.wrap (j : Int) = (j : Int) := by rw [IntKind.wrap_u8']; omega
        have HA1 : Hid (Calls Tryd.prog 12 #[.pointer (some ⟨lj, 0, none⟩), .slice none 0 0] wr fun e w' => e = .returned (.int .i64 0) ∧ Hid (∃ s hd, Lg w.heap.size w' g lj 18 s 2 16 ((j : Int) + 1) hd [b] (4 + need 0) (20 + 13 * j + need 0 + 3) ∧ Quiet s) ∧ Hid (Below w.heap.size wr w')) := Lib.hid (by
          obtain ⟨s, hd, h1, h2⟩ := hlg.out
          refine (lg_append_q h1 h2 (by omega) b 0 0 none (HBl.out trivial) (by omega) (by first | omega | exact HQ.out trivial) HBb.out ?_ (by unfold need; omega)).mono ?_
          · refine row8_same HRow.out fun g0 hor x0 hx => ?_
            have hlt0 := (Array.getElem?_eq_some_iff.1 hx).1
            rw [hbl.out.block g0 hlt0]; exact hx
          · rintro e w' ⟨rfl, h3, h4⟩
            obtain ⟨s', h5, h6⟩ := h3.out
            exact ⟨rfl, Lib.hid ⟨s', hd, h5, h6⟩, h4⟩)
        go_wp2_with fail
        refine HA1.out.mono ?_
        rintro e w3 ⟨rfl, hL3, hb3⟩
        have HB3 := Lib.hid (hbl.out.trans hb3.out)
        have hA : Below w3.heap.size w3 (w3.alloc (.cells #[.int .u8 (j : Int)] 5)) := (Below.refl _ _).alloc (Nat.le_refl _) _
        have HBA := Lib.hid (HB3.out.trans (hA.mono HB3.out.size))
        have HA2 : Hid (Calls Tryd.prog 12 #[.pointer (some ⟨lj, 0, none⟩), .slice (some ⟨w3.heap.size, 0, none⟩) 1 1] (w3.alloc (.cells #[.int .u8 (j : Int)] 5)) fun e w' => e = .returned (.int .i64 0) ∧ Hid (∃ s hd, Lg w.heap.size w' g lj 18 s 2 16 ((j : Int) + 1) hd [b, [j]] (4 + need 0 + 2) (20 + 13 * j + need 0 + 3 + 2 + 3) ∧ Quiet s) ∧ Hid (Below w.heap.size (w3.alloc (.cells #[.int .u8 (j : Int)] 5)) w')) := Lib.hid (by
          obtain ⟨s, hd, h1, h2⟩ := hL3.out
          refine (lg_append_q (h1.below hA) h2 (by unfold need; omega) [j] 1 1 (some ⟨w3.heap.size, 0, none⟩) rfl (by decide) (by decide) (by simp; omega) (row_one _ _ j _) (by unfold need; omega)).mono ?_
          rintro e w' ⟨rfl, h3, h4⟩
          obtain ⟨s', h5, h6⟩ := h3.out
          exact ⟨rfl, Lib.hid ⟨s', hd, h5, h6⟩, h4⟩)
        clear hA hb3
        go_wp2_with fail
        refine HA2.out.mono ?_
        rintro e w4 ⟨rfl, hL4, hb4⟩
        have HB4 := Lib.hid (HBA.out.trans hb4.out)
        have HOp : Hid (Calls Tryd.prog 18 #[.pointer (some ⟨g, 0, none⟩), .int .i64 2, .int .i64 14] w4 fun e w' => ∃ (l' : Nat) (rs : Value), e = .returned (.tuple #[.pointer (some ⟨l', 0, none⟩), rs, .int .i64 0]) ∧ Hid (∃ s hd, Lg w.heap.size w' g l' 18 s 2 16 ((j : Int) + 1) hd [b, [j]] (4 + need 0 + 2) (20 + 13 * j + need 0 + 3 + 2 + 3) ∧ Quiet s) ∧ Hid (RecsAt (w4.heap.size + 1) l' w' rs [b, [j]]) ∧ Hid (Below w4.heap.size w4 w')) := Lib.hid (by
          obtain ⟨s, hd, h1, h2⟩ := hL4.out
          refine (lg_again (ct := 14) h1 h2 (by decide) 2 14 rfl rfl).mono ?_
          rintro e w' ⟨l', rs, rfl, a1, a2, a3⟩
          exact ⟨l', rs, rfl, Lib.hid ⟨s, hd, a1.out, h2⟩, a2, a3⟩)
        clear hb4
        go_wp2_with fail
        refine HOp.out.mono ?_
        rintro e w5 ⟨o, rs, rfl, hL5, hR, hb5⟩
        obtain ⟨gR, cR, rfl, hc⟩ := recs_cell hR.out 2 rfl (by decide)
        obtain ⟨g0, c0, hc0, hs0⟩ := hc 0 b rfl
        obtain ⟨g1, c1, hc1, hs1⟩ := hc 1 [j] rfl
        have hcv : ∀ W, Below w5.heap.size w5 W → (convert 34 9 (.slice (some ⟨g0, 0, none⟩) 0 c0)).run Tryd.prog W = .ok (.string t0) W := fun W hW => by
          have h9 := Fc.src_conv0 (Fc.src_later hs0 hW) c0 (fun e => by cases e)
          rw [HBl.out trivial, HT0.out trivial] at h9
          exact h9
        rw [HBl.out trivial] at hc0
        have HB5 := Lib.hid (HB4.out.trans (hb5.out.mono HB4.out.size))
        have hcb : ∀ W, Below w5.heap.size w5 W → (convert 34 9 (.slice none 0 0)).run Tryd.prog W = .ok (.string t0) W := fun W hW => by
          have hrw : Row8 w.heap.size W none b := row8_same HRow.out fun g0 hor x0 hx => by
            have hlt0 := (Array.getElem?_eq_some_iff.1 hx).1
            rw [hW.block g0 (Nat.lt_of_lt_of_le hlt0 HB5.out.size), HB5.out.block g0 hlt0]; exact hx
          have h9 := Fc.src_conv0 hrw.src 0 (fun e => by first | exact HBl.out trivial | cases e)
          rw [HBl.out trivial, HT0.out trivial] at h9
          exact h9
        have hcel : w5.cell? ⟨g1, 0, none⟩ = some (.int .u8 (j : Int)) := by
          obtain ⟨g', o', e, h9⟩ := hs1 (by simp)
          cases e
          have := h9 0 (by simp)
          rw [Nat.zero_add] at this
          rw [this]; rfl
        have HCv := Lib.hid hcv
        have HCb := Lib.hid hcb
        have HC0 := Lib.hid (fun W (hW : Below w5.heap.size w5 W) => (hW.cell (World.block_lt_of_cell? w5 _ hc0)).trans hc0)
        have HC1 := Lib.hid (fun W (hW : Below w5.heap.size w5 W) => (hW.cell (World.block_lt_of_cell? w5 _ hc1)).trans hc1)
        have HC2 := Lib.hid (fun W (hW : Below w5.heap.size w5 W) => (hW.cell (World.block_lt_of_cell? w5 _ hcel)).trans hcel)
        have HAge : Hid (∀ W, Below w5.heap.size w5 W → Calls Tryd.prog 14 #[.pointer (some ⟨o, 0, none⟩)] W fun e w' => e = .returned (.int .i64 ((j : Int) + 1)) ∧ W = w') := Lib.hid fun W hW => by
          obtain ⟨s, hd, h1, h2⟩ := hL5.out
          exact age_any (h1.below hW).log
        have HTr : Hid (∀ W, Below w5.heap.size w5 W → Calls Tryd.prog 13 #[.pointer (some ⟨o, 0, none⟩)] W fun e w' => e = .returned (.int .i64 0) ∧ Hid (∃ s hd, Lg w.heap.size w' g o 18 s 2 16 (((j + 1 : Nat) : Int) + 1) hd [] 4 (20 + 13 * (j + 1)) ∧ Quiet s) ∧ Hid (Below w.heap.size W w')) := Lib.hid fun W hW => by
          obtain ⟨s, hd, h1, h2⟩ := hL5.out
          refine (lg_trunc_q (h1.below hW) h2 (by unfold need; omega) (by omega)).mono ?_
          rintro e w' ⟨rfl, h3, h4⟩
          obtain ⟨s', h5, h6⟩ := h3.out
          refine ⟨rfl, Lib.hid ⟨s', 1 - hd, ?_, h6⟩, h4⟩
          have h7 := h5.mono (k' := 20 + 13 * (j + 1)) (by unfold need; omega)
          rw [show ((j + 1 : Nat) : Int) + 1 = (j : Int) + 1 + 1 by push_cast; rfl]
          exact h7
        have hw2 : IntKind.i64.wrap ((j : Int) + 1) = (j : Int) + 1 := by rw [IntKind.wrap_i64]; omega
        clear hw1 hL5 hR hb5 hc hc0 hc1 hs0 hs1 hcv hcb hcel HL2 HB2 HA1 HA2 HOp
        go_wp2_with fail
        let U : Nat → World → Prop := fun jX W => match jX with | 0 => True | 1 => True | 2 => True | 3 => True | 4 => True | 5 => True | 6 => True | 7 => True | 8 => True | 9 => True | 10 => Below w5.heap.size w5 W | 11 => Below w5.heap.size w5 W | 12 => True | 13 => Below w5.heap.size w5 W | 14 => True | 15 => True | 16 => True | 17 => True | 18 => True | 19 => Below w5.heap.size w5 W | 20 => True | 21 => Below w5.heap.size w5 W | 22 => True | 23 => True | 24 => True | 25 => True | 26 => True | 27 => True | 28 => Below w5.heap.size w5 W | 29 => True | 30 => True | 31 => True | 32 => True | 33 => True | 34 => True | 35 => Below w5.heap.size w5 W | 36 => True | 37 => True | _ => True
        let R : Nat → World → World → Prop := fun jX W W2 => match jX with | 0 => W = W2 | 1 => W = W2 | 2 => W = W2 | 3 => W = W2 | 4 => W = W2 | 5 => W = W2 | 6 => W = W2 | 7 => W = W2 | 8 => W = W2 | 9 => W = W2 | 10 => W = W2 | 11 => W = W2 | 12 => W = W2 | 13 => W = W2 | 14 => W = W2 | 15 => W = W2 | 16 => W = W2 | 17 => W = W2 | 18 => W = W2 | 19 => W = W2 | 20 => W = W2 | 21 => W = W2 | 22 => W = W2 | 23 => W = W2 | 24 => W = W2 | 25 => W = W2 | 26 => W = W2 | 27 => W = W2 | 28 => W = W2 | 29 => W = W2 | 30 => W = W2 | 31 => W = W2 | 32 => W = W2 | 33 => W = W2 | 34 => W = W2 | 35 => Below w.heap.size W W2 | 36 => W = W2 | 37 => W = W2 | _ => W = W2
        let V : Nat → Value → World → Prop := fun jX v W => match jX with | 0 => v = .int .i64 0 | 1 => v = .bool false | 2 => v = .bool false | 3 => v = .slice (some ⟨gR, 0, none⟩) 2 cR | 4 => v = .int .i64 2 | 5 => v = .bool false | 6 => v = .bool false | 7 => v = .bool false | 8 => v = .slice (some ⟨gR, 0, none⟩) 2 cR | 9 => v = .pointer (some ⟨gR, 0, none⟩) | 10 => v = .slice (some ⟨g0, 0, none⟩) 0 c0 | 11 => v = .string t0 | 12 => v = .slice none 0 0 | 13 => v = .string t0 | 14 => v = .bool false | 15 => v = .bool false | 16 => v = .bool false | 17 => v = .slice (some ⟨gR, 0, none⟩) 2 cR | 18 => v = .pointer (some ⟨gR, 1, none⟩) | 19 => v = .slice (some ⟨g1, 0, none⟩) 1 c1 | 20 => v = .pointer (some ⟨g1, 0, none⟩) | 21 => v = .int .u8 (j : Int) | 22 => v = .int .i64 (j : Int) | 23 => v = .int .u8 (j : Int) | 24 => v = .bool false | 25 => v = .bool false | 26 => v = .bool false | 27 => v = .pointer (some ⟨o, 0, none⟩) | 28 => v = .int .i64 ((j : Int) + 1) | 29 => v = .int .i64 (j : Int) | 30 => v = .int .i64 ((j : Int) + 1) | 31 => v = .bool false | 32 => v = .bool false | 33 => v = .bool false | 34 => v = .pointer (some ⟨o, 0, none⟩) | 35 => v = .int .i64 0 ∧ ∃ s hd, Lg w.heap.size W g o 18 s 2 16 (((j + 1 : Nat) : Int) + 1) hd [] 4 (20 + 13 * (j + 1)) ∧ Quiet s | 36 => v = .bool false | 37 => v = .bool false | _ => True
        refine wp_region_fill4 (by kernel_rfl) U V (fun W => Below w.heap.size w W) R (by kernel_rfl) (by kernel_rfl) (HB5.out.trans ((Below.refl _ _).drew)) ?_ ?_ ?_ ?_ ?_ ?_
        · intro jX
          match jX with
          | 0 => exact trivial
          | 1 => exact trivial
          | 2 => exact trivial
          | 3 => exact trivial
          | 4 => exact trivial
          | 5 => exact trivial
          | 6 => exact trivial
          | 7 => exact trivial
          | 8 => exact trivial
          | 9 => exact trivial
          | 10 => exact (Below.refl _ _).drew
          | 11 => exact (Below.refl _ _).drew
          | 12 => exact trivial
          | 13 => exact (Below.refl _ _).drew
          | 14 => exact trivial
          | 15 => exact trivial
          | 16 => exact trivial
          | 17 => exact trivial
          | 18 => exact trivial
          | 19 => exact (Below.refl _ _).drew
          | 20 => exact trivial
          | 21 => exact (Below.refl _ _).drew
          | 22 => exact trivial
          | 23 => exact trivial
          | 24 => exact trivial
          | 25 => exact trivial
          | 26 => exact trivial
          | 27 => exact trivial
          | 28 => exact (Below.refl _ _).drew
          | 29 => exact trivial
          | 30 => exact trivial
          | 31 => exact trivial
          | 32 => exact trivial
          | 33 => exact trivial
          | 34 => exact trivial
          | 35 => exact (Below.refl _ _).drew
          | 36 => exact trivial
          | 37 => exact trivial
          | nX + 38 => exact trivial
        · intro iX W W2 hr hi
          match iX, hr with
          | 0, hr => exact (show W = W2 from hr) ▸ hi
          | 1, hr => exact (show W = W2 from hr) ▸ hi
          | 2, hr => exact (show W = W2 from hr) ▸ hi
          | 3, hr => exact (show W = W2 from hr) ▸ hi
          | 4, hr => exact (show W = W2 from hr) ▸ hi
          | 5, hr => exact (show W = W2 from hr) ▸ hi
          | 6, hr => exact (show W = W2 from hr) ▸ hi
          | 7, hr => exact (show W = W2 from hr) ▸ hi
          | 8, hr => exact (show W = W2 from hr) ▸ hi
          | 9, hr => exact (show W = W2 from hr) ▸ hi
          | 10, hr => exact (show W = W2 from hr) ▸ hi
          | 11, hr => exact (show W = W2 from hr) ▸ hi
          | 12, hr => exact (show W = W2 from hr) ▸ hi
          | 13, hr => exact (show W = W2 from hr) ▸ hi
          | 14, hr => exact (show W = W2 from hr) ▸ hi
          | 15, hr => exact (show W = W2 from hr) ▸ hi
          | 16, hr => exact (show W = W2 from hr) ▸ hi
          | 17, hr => exact (show W = W2 from hr) ▸ hi
          | 18, hr => exact (show W = W2 from hr) ▸ hi
          | 19, hr => exact (show W = W2 from hr) ▸ hi
          | 20, hr => exact (show W = W2 from hr) ▸ hi
          | 21, hr => exact (show W = W2 from hr) ▸ hi
          | 22, hr => exact (show W = W2 from hr) ▸ hi
          | 23, hr => exact (show W = W2 from hr) ▸ hi
          | 24, hr => exact (show W = W2 from hr) ▸ hi
          | 25, hr => exact (show W = W2 from hr) ▸ hi
          | 26, hr => exact (show W = W2 from hr) ▸ hi
          | 27, hr => exact (show W = W2 from hr) ▸ hi
          | 28, hr => exact (show W = W2 from hr) ▸ hi
          | 29, hr => exact (show W = W2 from hr) ▸ hi
          | 30, hr => exact (show W = W2 from hr) ▸ hi
          | 31, hr => exact (show W = W2 from hr) ▸ hi
          | 32, hr => exact (show W = W2 from hr) ▸ hi
          | 33, hr => exact (show W = W2 from hr) ▸ hi
          | 34, hr => exact (show W = W2 from hr) ▸ hi
          | 35, hr => exact hi.trans hr
          | 36, hr => exact (show W = W2 from hr) ▸ hi
          | 37, hr => exact (show W = W2 from hr) ▸ hi
          | nX + 38, hr => exact (show W = W2 from hr) ▸ hi
        · intro iX jX W W2 hij hord hi hui hr h
          match iX, hij, hord, hui, hr with
          | 0, hij, hord, hui, hr => exact (show W = W2 from hr) ▸ h
          | 1, hij, hord, hui, hr => exact (show W = W2 from hr) ▸ h
          | 2, hij, hord, hui, hr => exact (show W = W2 from hr) ▸ h
          | 3, hij, hord, hui, hr => exact (show W = W2 from hr) ▸ h
          | 4, hij, hord, hui, hr => exact (show W = W2 from hr) ▸ h
          | 5, hij, hord, hui, hr => exact (show W = W2 from hr) ▸ h
          | 6, hij, hord, hui, hr => exact (show W = W2 from hr) ▸ h
          | 7, hij, hord, hui, hr => exact (show W = W2 from hr) ▸ h
          | 8, hij, hord, hui, hr => exact (show W = W2 from hr) ▸ h
          | 9, hij, hord, hui, hr => exact (show W = W2 from hr) ▸ h
          | 10, hij, hord, hui, hr => exact (show W = W2 from hr) ▸ h
          | 11, hij, hord, hui, hr => exact (show W = W2 from hr) ▸ h
          | 12, hij, hord, hui, hr => exact (show W = W2 from hr) ▸ h
          | 13, hij, hord, hui, hr => exact (show W = W2 from hr) ▸ h
          | 14, hij, hord, hui, hr => exact (show W = W2 from hr) ▸ h
          | 15, hij, hord, hui, hr => exact (show W = W2 from hr) ▸ h
          | 16, hij, hord, hui, hr => exact (show W = W2 from hr) ▸ h
          | 17, hij, hord, hui, hr => exact (show W = W2 from hr) ▸ h
          | 18, hij, hord, hui, hr => exact (show W = W2 from hr) ▸ h
          | 19, hij, hord, hui, hr => exact (show W = W2 from hr) ▸ h
          | 20, hij, hord, hui, hr => exact (show W = W2 from hr) ▸ h
          | 21, hij, hord, hui, hr => exact (show W = W2 from hr) ▸ h
          | 22, hij, hord, hui, hr => exact (show W = W2 from hr) ▸ h
          | 23, hij, hord, hui, hr => exact (show W = W2 from hr) ▸ h
          | 24, hij, hord, hui, hr => exact (show W = W2 from hr) ▸ h
          | 25, hij, hord, hui, hr => exact (show W = W2 from hr) ▸ h
          | 26, hij, hord, hui, hr => exact (show W = W2 from hr) ▸ h
          | 27, hij, hord, hui, hr => exact (show W = W2 from hr) ▸ h
          | 28, hij, hord, hui, hr => exact (show W = W2 from hr) ▸ h
          | 29, hij, hord, hui, hr => exact (show W = W2 from hr) ▸ h
          | 30, hij, hord, hui, hr => exact (show W = W2 from hr) ▸ h
          | 31, hij, hord, hui, hr => exact (show W = W2 from hr) ▸ h
          | 32, hij, hord, hui, hr => exact (show W = W2 from hr) ▸ h
          | 33, hij, hord, hui, hr => exact (show W = W2 from hr) ▸ h
          | 34, hij, hord, hui, hr => exact (show W = W2 from hr) ▸ h
          | 35, hij, hord, hui, hr =>
            match jX, hij, hord, h with
            | 0, hij, hord, h => exact h
            | 1, hij, hord, h => exact h
            | 2, hij, hord, h => exact h
            | 3, hij, hord, h => exact h
            | 4, hij, hord, h => exact h
            | 5, hij, hord, h => exact h
            | 6, hij, hord, h => exact h
            | 7, hij, hord, h => exact h
            | 8, hij, hord, h => exact h
            | 9, hij, hord, h => exact h
            | 10, hij, hord, h => exact anc_no hord (by kernel_rfl)
            | 11, hij, hord, h => exact anc_no hord (by kernel_rfl)
            | 12, hij, hord, h => exact h
            | 13, hij, hord, h => exact anc_no hord (by kernel_rfl)
            | 14, hij, hord, h => exact h
            | 15, hij, hord, h => exact h
            | 16, hij, hord, h => exact h
            | 17, hij, hord, h => exact h
            | 18, hij, hord, h => exact h
            | 19, hij, hord, h => exact anc_no hord (by kernel_rfl)
            | 20, hij, hord, h => exact h
            | 21, hij, hord, h => exact anc_no hord (by kernel_rfl)
            | 22, hij, hord, h => exact h
            | 23, hij, hord, h => exact h
            | 24, hij, hord, h => exact h
            | 25, hij, hord, h => exact h
            | 26, hij, hord, h => exact h
            | 27, hij, hord, h => exact h
            | 28, hij, hord, h => exact anc_no hord (by kernel_rfl)
            | 29, hij, hord, h => exact h
            | 30, hij, hord, h => exact h
            | 31, hij, hord, h => exact h
            | 32, hij, hord, h => exact h
            | 33, hij, hord, h => exact h
            | 34, hij, hord, h => exact h
            | 35, hij, hord, h => exact absurd rfl hij
            | 36, hij, hord, h => exact h
            | 37, hij, hord, h => exact h
            | nX + 38, hij, hord, h => exact h
          | 36, hij, hord, hui, hr => exact (show W = W2 from hr) ▸ h
          | 37, hij, hord, hui, hr => exact (show W = W2 from hr) ▸ h
          | nX + 38, hij, hord, hui, hr => exact (show W = W2 from hr) ▸ h
        · intro iX jX v W W2 hij hord hi hui hr h
          match iX, hij, hord, hui, hr with
          | 0, hij, hord, hui, hr => exact (show W = W2 from hr) ▸ h
          | 1, hij, hord, hui, hr => exact (show W = W2 from hr) ▸ h
          | 2, hij, hord, hui, hr => exact (show W = W2 from hr) ▸ h
          | 3, hij, hord, hui, hr => exact (show W = W2 from hr) ▸ h
          | 4, hij, hord, hui, hr => exact (show W = W2 from hr) ▸ h
          | 5, hij, hord, hui, hr => exact (show W = W2 from hr) ▸ h
          | 6, hij, hord, hui, hr => exact (show W = W2 from hr) ▸ h
          | 7, hij, hord, hui, hr => exact (show W = W2 from hr) ▸ h
          | 8, hij, hord, hui, hr => exact (show W = W2 from hr) ▸ h
          | 9, hij, hord, hui, hr => exact (show W = W2 from hr) ▸ h
          | 10, hij, hord, hui, hr => exact (show W = W2 from hr) ▸ h
          | 11, hij, hord, hui, hr => exact (show W = W2 from hr) ▸ h
          | 12, hij, hord, hui, hr => exact (show W = W2 from hr) ▸ h
          | 13, hij, hord, hui, hr => exact (show W = W2 from hr) ▸ h
          | 14, hij, hord, hui, hr => exact (show W = W2 from hr) ▸ h
          | 15, hij, hord, hui, hr => exact (show W = W2 from hr) ▸ h
          | 16, hij, hord, hui, hr => exact (show W = W2 from hr) ▸ h
          | 17, hij, hord, hui, hr => exact (show W = W2 from hr) ▸ h
          | 18, hij, hord, hui, hr => exact (show W = W2 from hr) ▸ h
          | 19, hij, hord, hui, hr => exact (show W = W2 from hr) ▸ h
          | 20, hij, hord, hui, hr => exact (show W = W2 from hr) ▸ h
          | 21, hij, hord, hui, hr => exact (show W = W2 from hr) ▸ h
          | 22, hij, hord, hui, hr => exact (show W = W2 from hr) ▸ h
          | 23, hij, hord, hui, hr => exact (show W = W2 from hr) ▸ h
          | 24, hij, hord, hui, hr => exact (show W = W2 from hr) ▸ h
          | 25, hij, hord, hui, hr => exact (show W = W2 from hr) ▸ h
          | 26, hij, hord, hui, hr => exact (show W = W2 from hr) ▸ h
          | 27, hij, hord, hui, hr => exact (show W = W2 from hr) ▸ h
          | 28, hij, hord, hui, hr => exact (show W = W2 from hr) ▸ h
          | 29, hij, hord, hui, hr => exact (show W = W2 from hr) ▸ h
          | 30, hij, hord, hui, hr => exact (show W = W2 from hr) ▸ h
          | 31, hij, hord, hui, hr => exact (show W = W2 from hr) ▸ h
          | 32, hij, hord, hui, hr => exact (show W = W2 from hr) ▸ h
          | 33, hij, hord, hui, hr => exact (show W = W2 from hr) ▸ h
          | 34, hij, hord, hui, hr => exact (show W = W2 from hr) ▸ h
          | 35, hij, hord, hui, hr =>
            match jX, hij, hord, h with
            | 0, hij, hord, h => exact h
            | 1, hij, hord, h => exact h
            | 2, hij, hord, h => exact h
            | 3, hij, hord, h => exact h
            | 4, hij, hord, h => exact h
            | 5, hij, hord, h => exact h
            | 6, hij, hord, h => exact h
            | 7, hij, hord, h => exact h
            | 8, hij, hord, h => exact h
            | 9, hij, hord, h => exact h
            | 10, hij, hord, h => exact h
            | 11, hij, hord, h => exact h
            | 12, hij, hord, h => exact h
            | 13, hij, hord, h => exact h
            | 14, hij, hord, h => exact h
            | 15, hij, hord, h => exact h
            | 16, hij, hord, h => exact h
            | 17, hij, hord, h => exact h
            | 18, hij, hord, h => exact h
            | 19, hij, hord, h => exact h
            | 20, hij, hord, h => exact h
            | 21, hij, hord, h => exact h
            | 22, hij, hord, h => exact h
            | 23, hij, hord, h => exact h
            | 24, hij, hord, h => exact h
            | 25, hij, hord, h => exact h
            | 26, hij, hord, h => exact h
            | 27, hij, hord, h => exact h
            | 28, hij, hord, h => exact h
            | 29, hij, hord, h => exact h
            | 30, hij, hord, h => exact h
            | 31, hij, hord, h => exact h
            | 32, hij, hord, h => exact h
            | 33, hij, hord, h => exact h
            | 34, hij, hord, h => exact h
            | 35, hij, hord, h => exact absurd rfl hij
            | 36, hij, hord, h => exact h
            | 37, hij, hord, h => exact h
            | nX + 38, hij, hord, h => exact h
          | 36, hij, hord, hui, hr => exact (show W = W2 from hr) ▸ h
          | 37, hij, hord, hui, hr => exact (show W = W2 from hr) ▸ h
          | nX + 38, hij, hord, hui, hr => exact (show W = W2 from hr) ▸ h
        · intro iX o ho a W hN hi hui h
          match iX, ho, hui with
          | 0, ho, hui =>
            obtain rfl := Option.some.inj (show some _ = some o from ho)
            have e11 : a.eval (.tmp 11) = .int .i64 0 := hN.eval 11 (by kernel_rfl)
            refine fill_value (v := .int .i64 0) ho rfl (by rfl) (by clear h hN; have hcst : ∀ v, a.eval (.const v) = v := (fun _ => rfl); have hfun : ∀ f, a.eval (.func f) = .func (.func f) #[] #[] := (fun _ => rfl); generalize a.eval = ρ at *; go_simp) rfl (show W = W from rfl)
          | 1, ho, hui =>
            obtain rfl := Option.some.inj (show some _ = some o from ho)
            have e58 : a.eval (.tmp 58) = .int .i64 0 := h ⟨0, .data⟩ (by simp) rfl
            refine fill_value (v := .bool false) ho rfl (by rfl) (by clear h hN; have hcst : ∀ v, a.eval (.const v) = v := (fun _ => rfl); have hfun : ∀ f, a.eval (.func f) = .func (.func f) #[] #[] := (fun _ => rfl); generalize a.eval = ρ at *; go_simp) rfl (show W = W from rfl)
          | 2, ho, hui =>
            obtain rfl := Option.some.inj (show some _ = some o from ho)
            have e59 : a.eval (.tmp 59) = .bool false := h ⟨1, .data⟩ (by simp) rfl
            refine fill_value (v := .bool false) ho rfl (by rfl) (by clear h hN; have hcst : ∀ v, a.eval (.const v) = v := (fun _ => rfl); have hfun : ∀ f, a.eval (.func f) = .func (.func f) #[] #[] := (fun _ => rfl); generalize a.eval = ρ at *; go_simp) rfl (show W = W from rfl)
          | 3, ho, hui =>
            obtain rfl := Option.some.inj (show some _ = some o from ho)
            have e10 : a.eval (.tmp 10) = .slice (some ⟨gR, 0, none⟩) 2 cR := hN.eval 10 (by kernel_rfl)
            refine fill_value (v := .slice (some ⟨gR, 0, none⟩) 2 cR) ho rfl (guard_is false rfl rfl (show a.eval (.tmp 60) = .bool false from h ⟨2, .guard⟩ (by simp) rfl)) (by clear h hN; have hcst : ∀ v, a.eval (.const v) = v := (fun _ => rfl); have hfun : ∀ f, a.eval (.func f) = .func (.func f) #[] #[] := (fun _ => rfl); generalize a.eval = ρ at *; go_simp) rfl (show W = W from rfl)
          | 4, ho, hui =>
            obtain rfl := Option.some.inj (show some _ = some o from ho)
            have e61 : a.eval (.tmp 61) = .slice (some ⟨gR, 0, none⟩) 2 cR := h ⟨3, .data⟩ (by simp) rfl
            refine fill_value (v := .int .i64 2) ho rfl (guard_is false rfl rfl (show a.eval (.tmp 60) = .bool false from h ⟨2, .guard⟩ (by simp) rfl)) (by clear h hN; have hcst : ∀ v, a.eval (.const v) = v := (fun _ => rfl); have hfun : ∀ f, a.eval (.func f) = .func (.func f) #[] #[] := (fun _ => rfl); generalize a.eval = ρ at *; go_simp) rfl (show W = W from rfl)
          | 5, ho, hui =>
            obtain rfl := Option.some.inj (show some _ = some o from ho)
            have e62 : a.eval (.tmp 62) = .int .i64 2 := h ⟨4, .data⟩ (by simp) rfl
            refine fill_value (v := .bool false) ho rfl (guard_is false rfl rfl (show a.eval (.tmp 60) = .bool false from h ⟨2, .guard⟩ (by simp) rfl)) (by clear h hN; have hcst : ∀ v, a.eval (.const v) = v := (fun _ => rfl); have hfun : ∀ f, a.eval (.func f) = .func (.func f) #[] #[] := (fun _ => rfl); generalize a.eval = ρ at *; go_simp) rfl (show W = W from rfl)
          | 6, ho, hui =>
            obtain rfl := Option.some.inj (show some _ = some o from ho)
            have e60 : a.eval (.tmp 60) = .bool false := h ⟨2, .data⟩ (by simp) rfl
            have e63 : a.eval (.tmp 63) = .bool false := h ⟨5, .data⟩ (by simp) rfl
            refine fill_value (v := .bool false) ho rfl (by rfl) (by clear h hN; have hcst : ∀ v, a.eval (.const v) = v := (fun _ => rfl); have hfun : ∀ f, a.eval (.func f) = .func (.func f) #[] #[] := (fun _ => rfl); generalize a.eval = ρ at *; go_simp) rfl (show W = W from rfl)
          | 7, ho, hui =>
            obtain rfl := Option.some.inj (show some _ = some o from ho)
            have e64 : a.eval (.tmp 64) = .bool false := h ⟨6, .data⟩ (by simp) rfl
            refine fill_value (v := .bool false) ho rfl (by rfl) (by clear h hN; have hcst : ∀ v, a.eval (.const v) = v := (fun _ => rfl); have hfun : ∀ f, a.eval (.func f) = .func (.func f) #[] #[] := (fun _ => rfl); generalize a.eval = ρ at *; go_simp) rfl (show W = W from rfl)
          | 8, ho, hui =>
            obtain rfl := Option.some.inj (show some _ = some o from ho)
            have e10 : a.eval (.tmp 10) = .slice (some ⟨gR, 0, none⟩) 2 cR := hN.eval 10 (by kernel_rfl)
            refine fill_value (v := .slice (some ⟨gR, 0, none⟩) 2 cR) ho rfl (guard_is false rfl rfl (show a.eval (.tmp 65) = .bool false from h ⟨7, .guard⟩ (by simp) rfl)) (by clear h hN; have hcst : ∀ v, a.eval (.const v) = v := (fun _ => rfl); have hfun : ∀ f, a.eval (.func f) = .func (.func f) #[] #[] := (fun _ => rfl); generalize a.eval = ρ at *; go_simp) rfl (show W = W from rfl)
          | 9, ho, hui =>
            obtain rfl := Option.some.inj (show some _ = some o from ho)
            have e66 : a.eval (.tmp 66) = .slice (some ⟨gR, 0, none⟩) 2 cR := h ⟨8, .data⟩ (by simp) rfl
            refine fill_value (v := .pointer (some ⟨gR, 0, none⟩)) ho rfl (guard_is false rfl rfl (show a.eval (.tmp 65) = .bool false from h ⟨7, .guard⟩ (by simp) rfl)) (by clear h hN; have hcst : ∀ v, a.eval (.const v) = v := (fun _ => rfl); have hfun : ∀ f, a.eval (.func f) = .func (.func f) #[] #[] := (fun _ => rfl); generalize a.eval = ρ at *; go_simp) rfl (show W = W from rfl)
          | 10, ho, hui =>
            obtain rfl := Option.some.inj (show some _ = some o from ho)
            have e67 : a.eval (.tmp 67) = .pointer (some ⟨gR, 0, none⟩) := h ⟨9, .data⟩ (by simp) rfl
            have hc := HC0.out W hui
            refine fill_value (v := .slice (some ⟨g0, 0, none⟩) 0 c0) ho rfl (guard_is false rfl rfl (show a.eval (.tmp 65) = .bool false from h ⟨7, .guard⟩ (by simp) rfl)) (by clear h hN; have hcst : ∀ v, a.eval (.const v) = v := (fun _ => rfl); have hfun : ∀ f, a.eval (.func f) = .func (.func f) #[] #[] := (fun _ => rfl); generalize a.eval = ρ at *; go_simp) rfl (show W = W from rfl)
          | 11, ho, hui =>
            obtain rfl := Option.some.inj (show some _ = some o from ho)
            have e68 : a.eval (.tmp 68) = .slice (some ⟨g0, 0, none⟩) 0 c0 := h ⟨10, .data⟩ (by simp) rfl
            have hcv := HCv.out W hui
            refine fill_value (v := .string t0) ho rfl (guard_is false rfl rfl (show a.eval (.tmp 65) = .bool false from h ⟨7, .guard⟩ (by simp) rfl)) (by clear h hN; have hcst : ∀ v, a.eval (.const v) = v := (fun _ => rfl); have hfun : ∀ f, a.eval (.func f) = .func (.func f) #[] #[] := (fun _ => rfl); generalize a.eval = ρ at *; go_simp) rfl (show W = W from rfl)
          | 12, ho, hui =>
            obtain rfl := Option.some.inj (show some _ = some o from ho)
            have e1 : a.eval (.tmp 1) = .slice none 0 0 := hN.eval 1 (by kernel_rfl)
            refine fill_value (v := .slice none 0 0) ho rfl (guard_is false rfl rfl (show a.eval (.tmp 65) = .bool false from h ⟨7, .guard⟩ (by simp) rfl)) (by clear h hN; have hcst : ∀ v, a.eval (.const v) = v := (fun _ => rfl); have hfun : ∀ f, a.eval (.func f) = .func (.func f) #[] #[] := (fun _ => rfl); generalize a.eval = ρ at *; go_simp) rfl (show W = W from rfl)
          | 13, ho, hui =>
            obtain rfl := Option.some.inj (show some _ = some o from ho)
            have e70 : a.eval (.tmp 70) = .slice none 0 0 := h ⟨12, .data⟩ (by simp) rfl
            have hcv := HCb.out W hui
            refine fill_value (v := .string t0) ho rfl (guard_is false rfl rfl (show a.eval (.tmp 65) = .bool false from h ⟨7, .guard⟩ (by simp) rfl)) (by clear h hN; have hcst : ∀ v, a.eval (.const v) = v := (fun _ => rfl); have hfun : ∀ f, a.eval (.func f) = .func (.func f) #[] #[] := (fun _ => rfl); generalize a.eval = ρ at *; go_simp) rfl (show W = W from rfl)
          | 14, ho, hui =>
            obtain rfl := Option.some.inj (show some _ = some o from ho)
            have e69 : a.eval (.tmp 69) = .string t0 := h ⟨11, .data⟩ (by simp) rfl
            have e71 : a.eval (.tmp 71) = .string t0 := h ⟨13, .data⟩ (by simp) rfl
            refine fill_value (v := .bool false) ho rfl (guard_is false rfl rfl (show a.eval (.tmp 65) = .bool false from h ⟨7, .guard⟩ (by simp) rfl)) (by clear h hN; have hcst : ∀ v, a.eval (.const v) = v := (fun _ => rfl); have hfun : ∀ f, a.eval (.func f) = .func (.func f) #[] #[] := (fun _ => rfl); generalize a.eval = ρ at *; go_simp) rfl (show W = W from rfl)
          | 15, ho, hui =>
            obtain rfl := Option.some.inj (show some _ = some o from ho)
            have e65 : a.eval (.tmp 65) = .bool false := h ⟨7, .data⟩ (by simp) rfl
            have e72 : a.eval (.tmp 72) = .bool false := h ⟨14, .data⟩ (by simp) rfl
            refine fill_value (v := .bool false) ho rfl (by rfl) (by clear h hN; have hcst : ∀ v, a.eval (.const v) = v := (fun _ => rfl); have hfun : ∀ f, a.eval (.func f) = .func (.func f) #[] #[] := (fun _ => rfl); generalize a.eval = ρ at *; go_simp) rfl (show W = W from rfl)
          | 16, ho, hui =>
            obtain rfl := Option.some.inj (show some _ = some o from ho)
            have e73 : a.eval (.tmp 73) = .bool false := h ⟨15, .data⟩ (by simp) rfl
            refine fill_value (v := .bool false) ho rfl (by rfl) (by clear h hN; have hcst : ∀ v, a.eval (.const v) = v := (fun _ => rfl); have hfun : ∀ f, a.eval (.func f) = .func (.func f) #[] #[] := (fun _ => rfl); generalize a.eval = ρ at *; go_simp) rfl (show W = W from rfl)
          | 17, ho, hui =>
            obtain rfl := Option.some.inj (show some _ = some o from ho)
            have e10 : a.eval (.tmp 10) = .slice (some ⟨gR, 0, none⟩) 2 cR := hN.eval 10 (by kernel_rfl)
            refine fill_value (v := .slice (some ⟨gR, 0, none⟩) 2 cR) ho rfl (guard_is false rfl rfl (show a.eval (.tmp 74) = .bool false from h ⟨16, .guard⟩ (by simp) rfl)) (by clear h hN; have hcst : ∀ v, a.eval (.const v) = v := (fun _ => rfl); have hfun : ∀ f, a.eval (.func f) = .func (.func f) #[] #[] := (fun _ => rfl); generalize a.eval = ρ at *; go_simp) rfl (show W = W from rfl)
          | 18, ho, hui =>
            obtain rfl := Option.some.inj (show some _ = some o from ho)
            have e75 : a.eval (.tmp 75) = .slice (some ⟨gR, 0, none⟩) 2 cR := h ⟨17, .data⟩ (by simp) rfl
            refine fill_value (v := .pointer (some ⟨gR, 1, none⟩)) ho rfl (guard_is false rfl rfl (show a.eval (.tmp 74) = .bool false from h ⟨16, .guard⟩ (by simp) rfl)) (by clear h hN; have hcst : ∀ v, a.eval (.const v) = v := (fun _ => rfl); have hfun : ∀ f, a.eval (.func f) = .func (.func f) #[] #[] := (fun _ => rfl); generalize a.eval = ρ at *; go_simp) rfl (show W = W from rfl)
          | 19, ho, hui =>
            obtain rfl := Option.some.inj (show some _ = some o from ho)
            have e76 : a.eval (.tmp 76) = .pointer (some ⟨gR, 1, none⟩) := h ⟨18, .data⟩ (by simp) rfl
            have hc := HC1.out W hui
            refine fill_value (v := .slice (some ⟨g1, 0, none⟩) 1 c1) ho rfl (guard_is false rfl rfl (show a.eval (.tmp 74) = .bool false from h ⟨16, .guard⟩ (by simp) rfl)) (by clear h hN; have hcst : ∀ v, a.eval (.const v) = v := (fun _ => rfl); have hfun : ∀ f, a.eval (.func f) = .func (.func f) #[] #[] := (fun _ => rfl); generalize a.eval = ρ at *; go_simp) rfl (show W = W from rfl)
          | 20, ho, hui =>
            obtain rfl := Option.some.inj (show some _ = some o from ho)
            have e77 : a.eval (.tmp 77) = .slice (some ⟨g1, 0, none⟩) 1 c1 := h ⟨19, .data⟩ (by simp) rfl
            refine fill_value (v := .pointer (some ⟨g1, 0, none⟩)) ho rfl (guard_is false rfl rfl (show a.eval (.tmp 74) = .bool false from h ⟨16, .guard⟩ (by simp) rfl)) (by clear h hN; have hcst : ∀ v, a.eval (.const v) = v := (fun _ => rfl); have hfun : ∀ f, a.eval (.func f) = .func (.func f) #[] #[] := (fun _ => rfl); generalize a.eval = ρ at *; go_simp) rfl (show W = W from rfl)
          | 21, ho, hui =>
            obtain rfl := Option.some.inj (show some _ = some o from ho)
            have e78 : a.eval (.tmp 78) = .pointer (some ⟨g1, 0, none⟩) := h ⟨20, .data⟩ (by simp) rfl
            have hc := HC2.out W hui
            refine fill_value (v := .int .u8 (j : Int)) ho rfl (guard_is false rfl rfl (show a.eval (.tmp 74) = .bool false from h ⟨16, .guard⟩ (by simp) rfl)) (by clear h hN; have hcst : ∀ v, a.eval (.const v) = v := (fun _ => rfl); have hfun : ∀ f, a.eval (.func f) = .func (.func f) #[] #[] := (fun _ => rfl); generalize a.eval = ρ at *; go_simp) rfl (show W = W from rfl)
          | 22, ho, hui =>
            obtain rfl := Option.some.inj (show some _ = some o from ho)
            have e8 : a.eval (.tmp 8) = .int .i64 (j : Int) := hN.eval 8 (by kernel_rfl)
            refine fill_value (v := .int .i64 (j : Int)) ho rfl (guard_is false rfl rfl (show a.eval (.tmp 74) = .bool false from h ⟨16, .guard⟩ (by simp) rfl)) (by clear h hN; have hcst : ∀ v, a.eval (.const v) = v := (fun _ => rfl); have hfun : ∀ f, a.eval (.func f) = .func (.func f) #[] #[] := (fun _ => rfl); generalize a.eval = ρ at *; go_simp) rfl (show W = W from rfl)
          | 23, ho, hui =>
            obtain rfl := Option.some.inj (show some _ = some o from ho)
            have e80 : a.eval (.tmp 80) = .int .i64 (j : Int) := h ⟨22, .data⟩ (by simp) rfl
            refine fill_value (v := .int .u8 (j : Int)) ho rfl (guard_is false rfl rfl (show a.eval (.tmp 74) = .bool false from h ⟨16, .guard⟩ (by simp) rfl)) (by clear h hN; have hcst : ∀ v, a.eval (.const v) = v := (fun _ => rfl); have hfun : ∀ f, a.eval (.func f) = .func (.func f) #[] #[] := (fun _ => rfl); generalize a.eval = ρ at *; go_simp) rfl (show W = W from rfl)
          | 24, ho, hui =>
            obtain rfl := Option.some.inj (show some _ = some o from ho)
            have e79 : a.eval (.tmp 79) = .int .u8 (j : Int) := h ⟨21, .data⟩ (by simp) rfl
            have e81 : a.eval (.tmp 81) = .int .u8 (j : Int) := h ⟨23, .data⟩ (by simp) rfl
            refine fill_value (v := .bool false) ho rfl (guard_is false rfl rfl (show a.eval (.tmp 74) = .bool false from h ⟨16, .guard⟩ (by simp) rfl)) (by clear h hN; have hcst : ∀ v, a.eval (.const v) = v := (fun _ => rfl); have hfun : ∀ f, a.eval (.func f) = .func (.func f) #[] #[] := (fun _ => rfl); generalize a.eval = ρ at *; go_simp) rfl (show W = W from rfl)
          | 25, ho, hui =>
            obtain rfl := Option.some.inj (show some _ = some o from ho)
            have e74 : a.eval (.tmp 74) = .bool false := h ⟨16, .data⟩ (by simp) rfl
            have e82 : a.eval (.tmp 82) = .bool false := h ⟨24, .data⟩ (by simp) rfl
            refine fill_value (v := .bool false) ho rfl (by rfl) (by clear h hN; have hcst : ∀ v, a.eval (.const v) = v := (fun _ => rfl); have hfun : ∀ f, a.eval (.func f) = .func (.func f) #[] #[] := (fun _ => rfl); generalize a.eval = ρ at *; go_simp) rfl (show W = W from rfl)
          | 26, ho, hui =>
            obtain rfl := Option.some.inj (show some _ = some o from ho)
            have e83 : a.eval (.tmp 83) = .bool false := h ⟨25, .data⟩ (by simp) rfl
            refine fill_value (v := .bool false) ho rfl (by rfl) (by clear h hN; have hcst : ∀ v, a.eval (.const v) = v := (fun _ => rfl); have hfun : ∀ f, a.eval (.func f) = .func (.func f) #[] #[] := (fun _ => rfl); generalize a.eval = ρ at *; go_simp) rfl (show W = W from rfl)
          | 27, ho, hui =>
            obtain rfl := Option.some.inj (show some _ = some o from ho)
            have e9 : a.eval (.tmp 9) = .pointer (some ⟨o, 0, none⟩) := hN.eval 9 (by kernel_rfl)
            refine fill_value (v := .pointer (some ⟨o, 0, none⟩)) ho rfl (guard_is false rfl rfl (show a.eval (.tmp 84) = .bool false from h ⟨26, .guard⟩ (by simp) rfl)) (by clear h hN; have hcst : ∀ v, a.eval (.const v) = v := (fun _ => rfl); have hfun : ∀ f, a.eval (.func f) = .func (.func f) #[] #[] := (fun _ => rfl); generalize a.eval = ρ at *; go_simp) rfl (show W = W from rfl)
          | 28, ho, hui =>
            obtain rfl := Option.some.inj (show some _ = some o from ho)
            have e85 : a.eval (.tmp 85) = .pointer (some ⟨o, 0, none⟩) := h ⟨27, .data⟩ (by simp) rfl
            refine fill_enter (f := 14) (args := #[.pointer (some ⟨o, 0, none⟩)]) ho rfl (guard_is false rfl rfl (show a.eval (.tmp 84) = .bool false from h ⟨26, .guard⟩ (by simp) rfl)) (by clear h hN; have hcst : ∀ v, a.eval (.const v) = v := (fun _ => rfl); have hfun : ∀ f, a.eval (.func f) = .func (.func f) #[] #[] := (fun _ => rfl); generalize a.eval = ρ at *; go_simp) (HAge.out W hui) ?_
            rintro e w2 ⟨rfl, rfl⟩
            exact ⟨_, rfl, rfl, (show W = W from rfl)⟩
          | 29, ho, hui =>
            obtain rfl := Option.some.inj (show some _ = some o from ho)
            have e8 : a.eval (.tmp 8) = .int .i64 (j : Int) := hN.eval 8 (by kernel_rfl)
            refine fill_value (v := .int .i64 (j : Int)) ho rfl (guard_is false rfl rfl (show a.eval (.tmp 84) = .bool false from h ⟨26, .guard⟩ (by simp) rfl)) (by clear h hN; have hcst : ∀ v, a.eval (.const v) = v := (fun _ => rfl); have hfun : ∀ f, a.eval (.func f) = .func (.func f) #[] #[] := (fun _ => rfl); generalize a.eval = ρ at *; go_simp) rfl (show W = W from rfl)
          | 30, ho, hui =>
            obtain rfl := Option.some.inj (show some _ = some o from ho)
            have e87 : a.eval (.tmp 87) = .int .i64 (j : Int) := h ⟨29, .data⟩ (by simp) rfl
            refine fill_value (v := .int .i64 ((j : Int) + 1)) ho rfl (guard_is false rfl rfl (show a.eval (.tmp 84) = .bool false from h ⟨26, .guard⟩ (by simp) rfl)) (by clear h hN; have hcst : ∀ v, a.eval (.const v) = v := (fun _ => rfl); have hfun : ∀ f, a.eval (.func f) = .func (.func f) #[] #[] := (fun _ => rfl); generalize a.eval = ρ at *; go_simp) rfl (show W = W from rfl)
          | 31, ho, hui =>
            obtain rfl := Option.some.inj (show some _ = some o from ho)
            have e86 : a.eval (.tmp 86) = .int .i64 ((j : Int) + 1) := h ⟨28, .data⟩ (by simp) rfl
            have e88 : a.eval (.tmp 88) = .int .i64 ((j : Int) + 1) := h ⟨30, .data⟩ (by simp) rfl
            refine fill_value (v := .bool false) ho rfl (guard_is false rfl rfl (show a.eval (.tmp 84) = .bool false from h ⟨26, .guard⟩ (by simp) rfl)) (by clear h hN; have hcst : ∀ v, a.eval (.const v) = v := (fun _ => rfl); have hfun : ∀ f, a.eval (.func f) = .func (.func f) #[] #[] := (fun _ => rfl); generalize a.eval = ρ at *; go_simp) rfl (show W = W from rfl)
          | 32, ho, hui =>
            obtain rfl := Option.some.inj (show some _ = some o from ho)
            have e84 : a.eval (.tmp 84) = .bool false := h ⟨26, .data⟩ (by simp) rfl
            have e89 : a.eval (.tmp 89) = .bool false := h ⟨31, .data⟩ (by simp) rfl
            refine fill_value (v := .bool false) ho rfl (by rfl) (by clear h hN; have hcst : ∀ v, a.eval (.const v) = v := (fun _ => rfl); have hfun : ∀ f, a.eval (.func f) = .func (.func f) #[] #[] := (fun _ => rfl); generalize a.eval = ρ at *; go_simp) rfl (show W = W from rfl)
          | 33, ho, hui =>
            obtain rfl := Option.some.inj (show some _ = some o from ho)
            have e90 : a.eval (.tmp 90) = .bool false := h ⟨32, .data⟩ (by simp) rfl
            refine fill_value (v := .bool false) ho rfl (by rfl) (by clear h hN; have hcst : ∀ v, a.eval (.const v) = v := (fun _ => rfl); have hfun : ∀ f, a.eval (.func f) = .func (.func f) #[] #[] := (fun _ => rfl); generalize a.eval = ρ at *; go_simp) rfl (show W = W from rfl)
          | 34, ho, hui =>
            obtain rfl := Option.some.inj (show some _ = some o from ho)
            have e9 : a.eval (.tmp 9) = .pointer (some ⟨o, 0, none⟩) := hN.eval 9 (by kernel_rfl)
            refine fill_value (v := .pointer (some ⟨o, 0, none⟩)) ho rfl (guard_is false rfl rfl (show a.eval (.tmp 91) = .bool false from h ⟨33, .guard⟩ (by simp) rfl)) (by clear h hN; have hcst : ∀ v, a.eval (.const v) = v := (fun _ => rfl); have hfun : ∀ f, a.eval (.func f) = .func (.func f) #[] #[] := (fun _ => rfl); generalize a.eval = ρ at *; go_simp) rfl (show W = W from rfl)
          | 35, ho, hui =>
            obtain rfl := Option.some.inj (show some _ = some o from ho)
            have e92 : a.eval (.tmp 92) = .pointer (some ⟨o, 0, none⟩) := h ⟨34, .data⟩ (by simp) rfl
            refine fill_enter (f := 13) (args := #[.pointer (some ⟨o, 0, none⟩)]) ho rfl (guard_is false rfl rfl (show a.eval (.tmp 91) = .bool false from h ⟨33, .guard⟩ (by simp) rfl)) (by clear h hN; have hcst : ∀ v, a.eval (.const v) = v := (fun _ => rfl); have hfun : ∀ f, a.eval (.func f) = .func (.func f) #[] #[] := (fun _ => rfl); generalize a.eval = ρ at *; go_simp) (HTr.out W hui) ?_
            rintro e w2 ⟨rfl, h5, h6⟩
            exact ⟨_, rfl, ⟨rfl, h5.out⟩, h6.out⟩
          | 36, ho, hui =>
            obtain rfl := Option.some.inj (show some _ = some o from ho)
            obtain ⟨e93, p93⟩ : a.eval (.tmp 93) = .int .i64 0 ∧ ∃ s hd, Lg w.heap.size W g o 18 s 2 16 (((j + 1 : Nat) : Int) + 1) hd [] 4 (20 + 13 * (j + 1)) ∧ Quiet s := h ⟨35, .data⟩ (by simp) rfl
            refine fill_value (v := .bool false) ho rfl (guard_is false rfl rfl (show a.eval (.tmp 91) = .bool false from h ⟨33, .guard⟩ (by simp) rfl)) (by clear h hN; have hcst : ∀ v, a.eval (.const v) = v := (fun _ => rfl); have hfun : ∀ f, a.eval (.func f) = .func (.func f) #[] #[] := (fun _ => rfl); generalize a.eval = ρ at *; go_simp) rfl (show W = W from rfl)
          | 37, ho, hui =>
            obtain rfl := Option.some.inj (show some _ = some o from ho)
            have e91 : a.eval (.tmp 91) = .bool false := h ⟨33, .data⟩ (by simp) rfl
            have e94 : a.eval (.tmp 94) = .bool false := h ⟨36, .data⟩ (by simp) rfl
            refine fill_value (v := .bool false) ho rfl (by rfl) (by clear h hN; have hcst : ∀ v, a.eval (.const v) = v := (fun _ => rfl); have hfun : ∀ f, a.eval (.func f) = .func (.func f) #[] #[] := (fun _ => rfl); generalize a.eval = ρ at *; go_simp) rfl (show W = W from rfl)
          | nX + 38, ho, hui => exact absurd ho (by simp)
        · intro vals W hi h
          have u0 : vals 0 = .int .i64 0 := h 0 (by decide)
          have u1 : vals 1 = .bool false := h 1 (by decide)
          have u2 : vals 2 = .bool false := h 2 (by decide)
          have u3 : vals 3 = .slice (some ⟨gR, 0, none⟩) 2 cR := h 3 (by decide)
          have u4 : vals 4 = .int .i64 2 := h 4 (by decide)
          have u5 : vals 5 = .bool false := h 5 (by decide)
          have u6 : vals 6 = .bool false := h 6 (by decide)
          have u7 : vals 7 = .bool false := h 7 (by decide)
          have u8 : vals 8 = .slice (some ⟨gR, 0, none⟩) 2 cR := h 8 (by decide)
          have u9 : vals 9 = .pointer (some ⟨gR, 0, none⟩) := h 9 (by decide)
          have u10 : vals 10 = .slice (some ⟨g0, 0, none⟩) 0 c0 := h 10 (by decide)
          have u11 : vals 11 = .string t0 := h 11 (by decide)
          have u12 : vals 12 = .slice none 0 0 := h 12 (by decide)
          have u13 : vals 13 = .string t0 := h 13 (by decide)
          have u14 : vals 14 = .bool false := h 14 (by decide)
          have u15 : vals 15 = .bool false := h 15 (by decide)
          have u16 : vals 16 = .bool false := h 16 (by decide)
          have u17 : vals 17 = .slice (some ⟨gR, 0, none⟩) 2 cR := h 17 (by decide)
          have u18 : vals 18 = .pointer (some ⟨gR, 1, none⟩) := h 18 (by decide)
          have u19 : vals 19 = .slice (some ⟨g1, 0, none⟩) 1 c1 := h 19 (by decide)
          have u20 : vals 20 = .pointer (some ⟨g1, 0, none⟩) := h 20 (by decide)
          have u21 : vals 21 = .int .u8 (j : Int) := h 21 (by decide)
          have u22 : vals 22 = .int .i64 (j : Int) := h 22 (by decide)
          have u23 : vals 23 = .int .u8 (j : Int) := h 23 (by decide)
          have u24 : vals 24 = .bool false := h 24 (by decide)
          have u25 : vals 25 = .bool false := h 25 (by decide)
          have u26 : vals 26 = .bool false := h 26 (by decide)
          have u27 : vals 27 = .pointer (some ⟨o, 0, none⟩) := h 27 (by decide)
          have u28 : vals 28 = .int .i64 ((j : Int) + 1) := h 28 (by decide)
          have u29 : vals 29 = .int .i64 (j : Int) := h 29 (by decide)
          have u30 : vals 30 = .int .i64 ((j : Int) + 1) := h 30 (by decide)
          have u31 : vals 31 = .bool false := h 31 (by decide)
          have u32 : vals 32 = .bool false := h 32 (by decide)
          have u33 : vals 33 = .bool false := h 33 (by decide)
          have u34 : vals 34 = .pointer (some ⟨o, 0, none⟩) := h 34 (by decide)
          obtain ⟨u35, p35⟩ : vals 35 = .int .i64 0 ∧ ∃ s hd, Lg w.heap.size W g o 18 s 2 16 (((j + 1 : Nat) : Int) + 1) hd [] 4 (20 + 13 * (j + 1)) ∧ Quiet s := h 35 (by decide)
          have u36 : vals 36 = .bool false := h 36 (by decide)
          have u37 : vals 37 = .bool false := h 37 (by decide)
          generalize hA : fill _ _ _ _ = A
          have hA2 : (Act.put (Act.put (Act.put (Act.put (Act.put (Act.put (Act.put (Act.put (Act.put (Act.put (Act.put (Act.put (Act.put (Act.put (Act.put (Act.put (Act.put (Act.put (Act.put (Act.put (Act.put (Act.put (Act.put (Act.put (Act.put (Act.put (Act.put (Act.put (Act.put (Act.put (Act.put (Act.put (Act.put (Act.put (Act.put (Act.put (Act.put (Act.put (_ : Act) (some 58) (vals 0)) (some 59) (vals 1)) (some 60) (vals 2)) (some 61) (vals 3)) (some 62) (vals 4)) (some 63) (vals 5)) (some 64) (vals 6)) (some 65) (vals 7)) (some 66) (vals 8)) (some 67) (vals 9)) (some 68) (vals 10)) (some 69) (vals 11)) (some 70) (vals 12)) (some 71) (vals 13)) (some 72) (vals 14)) (some 73) (vals 15)) (some 74) (vals 16)) (some 75) (vals 17)) (some 76) (vals 18)) (some 77) (vals 19)) (some 78) (vals 20)) (some 79) (vals 21)) (some 80) (vals 22)) (some 81) (vals 23)) (some 82) (vals 24)) (some 83) (vals 25)) (some 84) (vals 26)) (some 85) (vals 27)) (some 86) (vals 28)) (some 87) (vals 29)) (some 88) (vals 30)) (some 89) (vals 31)) (some 90) (vals 32)) (some 91) (vals 33)) (some 92) (vals 34)) (some 93) (vals 35)) (some 94) (vals 36)) (some 95) (vals 37)) = A := hA
          clear hA h V R U
          rw [u0, u1, u2, u3, u4, u5, u6, u7, u8, u9, u10, u11, u12, u13, u14, u15, u16, u17, u18, u19, u20, u21, u22, u23, u24, u25, u26, u27, u28, u29, u30, u31, u32, u33, u34, u35, u36, u37] at hA2
          simp only [fill, Act.put, List.setIfInBounds_toArray, List.set_cons_succ, List.set_cons_zero] at hA2
          subst hA2
          clear u0 u1 u2 u3 u4 u5 u6 u7 u8 u9 u10 u11 u12 u13 u14 u15 u16 u17 u18 u19 u20 u21 u22 u23 u24 u25 u26 u27 u28 u29 u30 u31 u32 u33 u34 u35 u36 u37
          have HL6 := Lib.hid p35
          have HB6 := Lib.hid hi
          clear p35 hi HCv HCb HC0 HC1 HC2 HAge HTr
          obtain ⟨w6, hw6⟩ : ∃ y, y = W := ⟨_, rfl⟩
          subst hw6
          have hw1 : IntKind.i64.wrap ((j : Int) + 1) = ((j + 1 : Nat) : Int) := by rw [IntKind.wrap_i64]; omega
          clear hw2
          go_wp2_with fail
          go_roundw
          case rel => exact ⟨j + 1, o, rfl, rfl, by omega, HL6, HB6⟩
          case measure => simp [intOf]; omega
      · obtain rfl : j = r := by omega
        have HOp : Hid (Calls Tryd.prog 18 #[.pointer (some ⟨g, 0, none⟩), .int .i64 2, .int .i64 14] wr fun e w' => ∃ (l' : Nat) (rs : Value), e = .returned (.tuple #[.pointer (some ⟨l', 0, none⟩), rs, .int .i64 0]) ∧ Hid (RecsAt (wr.heap.size + 1) l' w' rs []) ∧ Hid (Below wr.heap.size wr w')) := Lib.hid (by
          obtain ⟨s, hd, h1, h2⟩ := hlg.out
          refine (lg_again (ct := 14) h1 h2 (by decide) 2 14 rfl rfl).mono ?_
          rintro e w' ⟨l', rs, rfl, a1, a2, a3⟩
          exact ⟨l', rs, rfl, a2, a3⟩)
        go_wp2_with fail
        refine HOp.out.mono ?_
        rintro e w5 ⟨o, rs, rfl, hR, hb5⟩
        have hrn := recs_none hR.out
        subst hrn
        have HAge : Hid (Calls Tryd.prog 14 #[.pointer (some ⟨lj, 0, none⟩)] w5 fun e w' => e = .returned (.int .i64 ((j : Int) + 1)) ∧ w5 = w') := Lib.hid (by
          obtain ⟨s, hd, h1, h2⟩ := hlg.out
          exact age_any (h1.below hb5.out).log)
        have HB5 := Lib.hid (hbl.out.trans (hb5.out.mono hbl.out.size))
        have hw2 : IntKind.i64.wrap ((j : Int) + 1) = (j : Int) + 1 := by rw [IntKind.wrap_i64]; omega
        clear hR hb5 HL2 HB2 HOp
        go_wp2_with fail
        refine HAge.out.mono ?_
        rintro e w6 ⟨rfl, rfl⟩
        go_wp2_with fail
        go_ret
        exact ⟨rfl, HB5.out⟩
  | some x =>
    go_enter Tryd.func9, Tryd.ntmps9
    go_wp2_with fail
    refine HFr.out.mono ?_
    rintro e w1 ⟨g, l, rfl, hL1, hb1⟩
    have HLog : Hid (Calls Tryd.prog 10 #[] w1 fun e w' => e = .returned (.bool true) ∧ Hid (Below w1.heap.size w1 w')) := Lib.hid (logs_any w1 (Nat.lt_of_lt_of_le HGh.out hb1.out.size) (Lib.hid (Fc.tab_later ht.out hb1.out)))
    go_wp2_with fail
    refine HLog.out.mono ?_
    rintro e w2 ⟨rfl, hb2⟩
    have HL2 : Hid (∃ s, Lg w.heap.size w2 g l 18 s 2 16 1 0 [] 4 20 ∧ Quiet s) := Lib.hid (by
      obtain ⟨s, h1, h2⟩ := hL1.out
      exact ⟨s, h1.below hb2.out, h2⟩)
    have HB2 := Lib.hid (hb1.out.trans (hb2.out.mono hb1.out.size))
    clear hL1 hb1 hb2 HFr HLog
    go_wp2_with fail
    rw [hr']
    skip
    go_loopw [6, 8] (fun lv i wr => ∃ j lj : Nat, lv = .pointer (some ⟨lj, 0, none⟩) ∧ i = .int .i64 (j : Int) ∧ j ≤ r ∧ Hid (∃ s hd, Lg w.heap.size wr g lj 18 s 2 16 ((j : Int) + 1) hd [] 4 (20 + 13 * j) ∧ Quiet s) ∧ Hid (Below w.heap.size w wr)) (fun _ i _ => r - (intOf i).toNat)
    case atStart => exact ⟨0, l, rfl, rfl, by omega, Lib.hid (HL2.out.elim fun s h => ⟨s, 0, h.1, h.2⟩), HB2⟩
    case round =>
      obtain ⟨j, lj, rfl, rfl, hj, hlg, hbl⟩ := hrel
      by_cases hlt : j < r
      · have hltI : (j : Int) < (r : Int) := by omega
        have hw1 : IntKind.i64.wrap ((j : Int) + 1) = ((j + 1 : Nat) : Int) := by rw [IntKind.wrap_i64]; omega
        have hwb : IntKind.u8.wrap (j : Int) = (j : Int) := by rw [IntKind.wrap_u8']; omega
        have HA1 : Hid (Calls Tryd.prog 12 #[.pointer (some ⟨lj, 0, none⟩), .slice (some x) q cap] wr fun e w' => e = .returned (.int .i64 0) ∧ Hid (∃ s hd, Lg w.heap.size w' g lj 18 s 2 16 ((j : Int) + 1) hd [b] (4 + need q) (20 + 13 * j + need q + 3) ∧ Quiet s) ∧ Hid (Below w.heap.size wr w')) := Lib.hid (by
          obtain ⟨s, hd, h1, h2⟩ := hlg.out
          refine (lg_append_q h1 h2 (by omega) b q cap (some x) (HBl.out trivial) (by omega) (by first | omega | exact HQ.out trivial) HBb.out ?_ (by unfold need; omega)).mono ?_
          · refine row8_same HRow.out fun g0 hor x0 hx => ?_
            have hlt0 := (Array.getElem?_eq_some_iff.1 hx).1
            rw [hbl.out.block g0 hlt0]; exact hx
          · rintro e w' ⟨rfl, h3, h4⟩
            obtain ⟨s', h5, h6⟩ := h3.out
            exact ⟨rfl, Lib.hid ⟨s', hd, h5, h6⟩, h4⟩)
        go_wp2_with fail
        refine HA1.out.mono ?_
        rintro e w3 ⟨rfl, hL3, hb3⟩
        have HB3 := Lib.hid (hbl.out.trans hb3.out)
        have hA : Below w3.heap.size w3 (w3.alloc (.cells #[.int .u8 (j : Int)] 5)) := (Below.refl _ _).alloc (Nat.le_refl _) _
        have HBA := Lib.hid (HB3.out.trans (hA.mono HB3.out.size))
        have HA2 : Hid (Calls Tryd.prog 12 #[.pointer (some ⟨lj, 0, none⟩), .slice (some ⟨w3.heap.size, 0, none⟩) 1 1] (w3.alloc (.cells #[.int .u8 (j : Int)] 5)) fun e w' => e = .returned (.int .i64 0) ∧ Hid (∃ s hd, Lg w.heap.size w' g lj 18 s 2 16 ((j : Int) + 1) hd [b, [j]] (4 + need q + 2) (20 + 13 * j + need q + 3 + 2 + 3) ∧ Quiet s) ∧ Hid (Below w.heap.size (w3.alloc (.cells #[.int .u8 (j : Int)] 5)) w')) := Lib.hid (by
          obtain ⟨s, hd, h1, h2⟩ := hL3.out
          refine (lg_append_q (h1.below hA) h2 (by unfold need; omega) [j] 1 1 (some ⟨w3.heap.size, 0, none⟩) rfl (by decide) (by decide) (by simp; omega) (row_one _ _ j _) (by unfold need; omega)).mono ?_
          rintro e w' ⟨rfl, h3, h4⟩
          obtain ⟨s', h5, h6⟩ := h3.out
          exact ⟨rfl, Lib.hid ⟨s', hd, h5, h6⟩, h4⟩)
        clear hA hb3
        go_wp2_with fail
        refine HA2.out.mono ?_
        rintro e w4 ⟨rfl, hL4, hb4⟩
        have HB4 := Lib.hid (HBA.out.trans hb4.out)
        have HOp : Hid (Calls Tryd.prog 18 #[.pointer (some ⟨g, 0, none⟩), .int .i64 2, .int .i64 14] w4 fun e w' => ∃ (l' : Nat) (rs : Value), e = .returned (.tuple #[.pointer (some ⟨l', 0, none⟩), rs, .int .i64 0]) ∧ Hid (∃ s hd, Lg w.heap.size w' g l' 18 s 2 16 ((j : Int) + 1) hd [b, [j]] (4 + need q + 2) (20 + 13 * j + need q + 3 + 2 + 3) ∧ Quiet s) ∧ Hid (RecsAt (w4.heap.size + 1) l' w' rs [b, [j]]) ∧ Hid (Below w4.heap.size w4 w')) := Lib.hid (by
          obtain ⟨s, hd, h1, h2⟩ := hL4.out
          refine (lg_again (ct := 14) h1 h2 (by decide) 2 14 rfl rfl).mono ?_
          rintro e w' ⟨l', rs, rfl, a1, a2, a3⟩
          exact ⟨l', rs, rfl, Lib.hid ⟨s, hd, a1.out, h2⟩, a2, a3⟩)
        clear hb4
        go_wp2_with fail
        refine HOp.out.mono ?_
        rintro e w5 ⟨o, rs, rfl, hL5, hR, hb5⟩
        obtain ⟨gR, cR, rfl, hc⟩ := recs_cell hR.out 2 rfl (by decide)
        obtain ⟨g0, c0, hc0, hs0⟩ := hc 0 b rfl
        obtain ⟨g1, c1, hc1, hs1⟩ := hc 1 [j] rfl
        have hcv : ∀ W, Below w5.heap.size w5 W → (convert 34 9 (.slice (some ⟨g0, 0, none⟩) q c0)).run Tryd.prog W = .ok (.string t0) W := fun W hW => by
          have h9 := Fc.src_conv0 (Fc.src_later hs0 hW) c0 (fun e => by cases e)
          rw [HBl.out trivial, HT0.out trivial] at h9
          exact h9
        rw [HBl.out trivial] at hc0
        have HB5 := Lib.hid (HB4.out.trans (hb5.out.mono HB4.out.size))
        have hcb : ∀ W, Below w5.heap.size w5 W → (convert 34 9 (.slice (some x) q cap)).run Tryd.prog W = .ok (.string t0) W := fun W hW => by
          have hrw : Row8 w.heap.size W (some x) b := row8_same HRow.out fun g0 hor x0 hx => by
            have hlt0 := (Array.getElem?_eq_some_iff.1 hx).1
            rw [hW.block g0 (Nat.lt_of_lt_of_le hlt0 HB5.out.size), HB5.out.block g0 hlt0]; exact hx
          have h9 := Fc.src_conv0 hrw.src cap (fun e => by first | exact HBl.out trivial | cases e)
          rw [HBl.out trivial, HT0.out trivial] at h9
          exact h9
        have hcel : w5.cell? ⟨g1, 0, none⟩ = some (.int .u8 (j : Int)) := by
          obtain ⟨g', o', e, h9⟩ := hs1 (by simp)
          cases e
          have := h9 0 (by simp)
          rw [Nat.zero_add] at this
          rw [this]; rfl
        have HCv := Lib.hid hcv
        have HCb := Lib.hid hcb
        have HC0 := Lib.hid (fun W (hW : Below w5.heap.size w5 W) => (hW.cell (World.block_lt_of_cell? w5 _ hc0)).trans hc0)
        have HC1 := Lib.hid (fun W (hW : Below w5.heap.size w5 W) => (hW.cell (World.block_lt_of_cell? w5 _ hc1)).trans hc1)
        have HC2 := Lib.hid (fun W (hW : Below w5.heap.size w5 W) => (hW.cell (World.block_lt_of_cell? w5 _ hcel)).trans hcel)
        have HAge : Hid (∀ W, Below w5.heap.size w5 W → Calls Tryd.prog 14 #[.pointer (some ⟨o, 0, none⟩)] W fun e w' => e = .returned (.int .i64 ((j : Int) + 1)) ∧ W = w') := Lib.hid fun W hW => by
          obtain ⟨s, hd, h1, h2⟩ := hL5.out
          exact age_any (h1.below hW).log
        have HTr : Hid (∀ W, Below w5.heap.size w5 W → Calls Tryd.prog 13 #[.pointer (some ⟨o, 0, none⟩)] W fun e w' => e = .returned (.int .i64 0) ∧ Hid (∃ s hd, Lg w.heap.size w' g o 18 s 2 16 (((j + 1 : Nat) : Int) + 1) hd [] 4 (20 + 13 * (j + 1)) ∧ Quiet s) ∧ Hid (Below w.heap.size W w')) := Lib.hid fun W hW => by
          obtain ⟨s, hd, h1, h2⟩ := hL5.out
          refine (lg_trunc_q (h1.below hW) h2 (by unfold need; omega) (by omega)).mono ?_
          rintro e w' ⟨rfl, h3, h4⟩
          obtain ⟨s', h5, h6⟩ := h3.out
          refine ⟨rfl, Lib.hid ⟨s', 1 - hd, ?_, h6⟩, h4⟩
          have h7 := h5.mono (k' := 20 + 13 * (j + 1)) (by unfold need; omega)
          rw [show ((j + 1 : Nat) : Int) + 1 = (j : Int) + 1 + 1 by push_cast; rfl]
          exact h7
        have hw2 : IntKind.i64.wrap ((j : Int) + 1) = (j : Int) + 1 := by rw [IntKind.wrap_i64]; omega
        clear hw1 hL5 hR hb5 hc hc0 hc1 hs0 hs1 hcv hcb hcel HL2 HB2 HA1 HA2 HOp
        go_wp2_with fail
        let U : Nat → World → Prop := fun jX W => match jX with | 0 => True | 1 => True | 2 => True | 3 => True | 4 => True | 5 => True | 6 => True | 7 => True | 8 => True | 9 => True | 10 => Below w5.heap.size w5 W | 11 => Below w5.heap.size w5 W | 12 => True | 13 => Below w5.heap.size w5 W | 14 => True | 15 => True | 16 => True | 17 => True | 18 => True | 19 => Below w5.heap.size w5 W | 20 => True | 21 => Below w5.heap.size w5 W | 22 => True | 23 => True | 24 => True | 25 => True | 26 => True | 27 => True | 28 => Below w5.heap.size w5 W | 29 => True | 30 => True | 31 => True | 32 => True | 33 => True | 34 => True | 35 => Below w5.heap.size w5 W | 36 => True | 37 => True | _ => True
        let R : Nat → World → World → Prop := fun jX W W2 => match jX with | 0 => W = W2 | 1 => W = W2 | 2 => W = W2 | 3 => W = W2 | 4 => W = W2 | 5 => W = W2 | 6 => W = W2 | 7 => W = W2 | 8 => W = W2 | 9 => W = W2 | 10 => W = W2 | 11 => W = W2 | 12 => W = W2 | 13 => W = W2 | 14 => W = W2 | 15 => W = W2 | 16 => W = W2 | 17 => W = W2 | 18 => W = W2 | 19 => W = W2 | 20 => W = W2 | 21 => W = W2 | 22 => W = W2 | 23 => W = W2 | 24 => W = W2 | 25 => W = W2 | 26 => W = W2 | 27 => W = W2 | 28 => W = W2 | 29 => W = W2 | 30 => W = W2 | 31 => W = W2 | 32 => W = W2 | 33 => W = W2 | 34 => W = W2 | 35 => Below w.heap.size W W2 | 36 => W = W2 | 37 => W = W2 | _ => W = W2
        let V : Nat → Value → World → Prop := fun jX v W => match jX with | 0 => v = .int .i64 0 | 1 => v = .bool false | 2 => v = .bool false | 3 => v = .slice (some ⟨gR, 0, none⟩) 2 cR | 4 => v = .int .i64 2 | 5 => v = .bool false | 6 => v = .bool false | 7 => v = .bool false | 8 => v = .slice (some ⟨gR, 0, none⟩) 2 cR | 9 => v = .pointer (some ⟨gR, 0, none⟩) | 10 => v = .slice (some ⟨g0, 0, none⟩) q c0 | 11 => v = .string t0 | 12 => v = .slice (some x) q cap | 13 => v = .string t0 | 14 => v = .bool false | 15 => v = .bool false | 16 => v = .bool false | 17 => v = .slice (some ⟨gR, 0, none⟩) 2 cR | 18 => v = .pointer (some ⟨gR, 1, none⟩) | 19 => v = .slice (some ⟨g1, 0, none⟩) 1 c1 | 20 => v = .pointer (some ⟨g1, 0, none⟩) | 21 => v = .int .u8 (j : Int) | 22 => v = .int .i64 (j : Int) | 23 => v = .int .u8 (j : Int) | 24 => v = .bool false | 25 => v = .bool false | 26 => v = .bool false | 27 => v = .pointer (some ⟨o, 0, none⟩) | 28 => v = .int .i64 ((j : Int) + 1) | 29 => v = .int .i64 (j : Int) | 30 => v = .int .i64 ((j : Int) + 1) | 31 => v = .bool false | 32 => v = .bool false | 33 => v = .bool false | 34 => v = .pointer (some ⟨o, 0, none⟩) | 35 => v = .int .i64 0 ∧ ∃ s hd, Lg w.heap.size W g o 18 s 2 16 (((j + 1 : Nat) : Int) + 1) hd [] 4 (20 + 13 * (j + 1)) ∧ Quiet s | 36 => v = .bool false | 37 => v = .bool false | _ => True
        refine wp_region_fill4 (by kernel_rfl) U V (fun W => Below w.heap.size w W) R (by kernel_rfl) (by kernel_rfl) (HB5.out.trans ((Below.refl _ _).drew)) ?_ ?_ ?_ ?_ ?_ ?_
        · intro jX
          match jX with
          | 0 => exact trivial
          | 1 => exact trivial
          | 2 => exact trivial
          | 3 => exact trivial
          | 4 => exact trivial
          | 5 => exact trivial
          | 6 => exact trivial
          | 7 => exact trivial
          | 8 => exact trivial
          | 9 => exact trivial
          | 10 => exact (Below.refl _ _).drew
          | 11 => exact (Below.refl _ _).drew
          | 12 => exact trivial
          | 13 => exact (Below.refl _ _).drew
          | 14 => exact trivial
          | 15 => exact trivial
          | 16 => exact trivial
          | 17 => exact trivial
          | 18 => exact trivial
          | 19 => exact (Below.refl _ _).drew
          | 20 => exact trivial
          | 21 => exact (Below.refl _ _).drew
          | 22 => exact trivial
          | 23 => exact trivial
          | 24 => exact trivial
          | 25 => exact trivial
          | 26 => exact trivial
          | 27 => exact trivial
          | 28 => exact (Below.refl _ _).drew
          | 29 => exact trivial
          | 30 => exact trivial
          | 31 => exact trivial
          | 32 => exact trivial
          | 33 => exact trivial
          | 34 => exact trivial
          | 35 => exact (Below.refl _ _).drew
          | 36 => exact trivial
          | 37 => exact trivial
          | nX + 38 => exact trivial
        · intro iX W W2 hr hi
          match iX, hr with
          | 0, hr => exact (show W = W2 from hr) ▸ hi
          | 1, hr => exact (show W = W2 from hr) ▸ hi
          | 2, hr => exact (show W = W2 from hr) ▸ hi
          | 3, hr => exact (show W = W2 from hr) ▸ hi
          | 4, hr => exact (show W = W2 from hr) ▸ hi
          | 5, hr => exact (show W = W2 from hr) ▸ hi
          | 6, hr => exact (show W = W2 from hr) ▸ hi
          | 7, hr => exact (show W = W2 from hr) ▸ hi
          | 8, hr => exact (show W = W2 from hr) ▸ hi
          | 9, hr => exact (show W = W2 from hr) ▸ hi
          | 10, hr => exact (show W = W2 from hr) ▸ hi
          | 11, hr => exact (show W = W2 from hr) ▸ hi
          | 12, hr => exact (show W = W2 from hr) ▸ hi
          | 13, hr => exact (show W = W2 from hr) ▸ hi
          | 14, hr => exact (show W = W2 from hr) ▸ hi
          | 15, hr => exact (show W = W2 from hr) ▸ hi
          | 16, hr => exact (show W = W2 from hr) ▸ hi
          | 17, hr => exact (show W = W2 from hr) ▸ hi
          | 18, hr => exact (show W = W2 from hr) ▸ hi
          | 19, hr => exact (show W = W2 from hr) ▸ hi
          | 20, hr => exact (show W = W2 from hr) ▸ hi
          | 21, hr => exact (show W = W2 from hr) ▸ hi
          | 22, hr => exact (show W = W2 from hr) ▸ hi
          | 23, hr => exact (show W = W2 from hr) ▸ hi
          | 24, hr => exact (show W = W2 from hr) ▸ hi
          | 25, hr => exact (show W = W2 from hr) ▸ hi
          | 26, hr => exact (show W = W2 from hr) ▸ hi
          | 27, hr => exact (show W = W2 from hr) ▸ hi
          | 28, hr => exact (show W = W2 from hr) ▸ hi
          | 29, hr => exact (show W = W2 from hr) ▸ hi
          | 30, hr => exact (show W = W2 from hr) ▸ hi
          | 31, hr => exact (show W = W2 from hr) ▸ hi
          | 32, hr => exact (show W = W2 from hr) ▸ hi
          | 33, hr => exact (show W = W2 from hr) ▸ hi
          | 34, hr => exact (show W = W2 from hr) ▸ hi
          | 35, hr => exact hi.trans hr
          | 36, hr => exact (show W = W2 from hr) ▸ hi
          | 37, hr => exact (show W = W2 from hr) ▸ hi
          | nX + 38, hr => exact (show W = W2 from hr) ▸ hi
        · intro iX jX W W2 hij hord hi hui hr h
          match iX, hij, hord, hui, hr with
          | 0, hij, hord, hui, hr => exact (show W = W2 from hr) ▸ h
          | 1, hij, hord, hui, hr => exact (show W = W2 from hr) ▸ h
          | 2, hij, hord, hui, hr => exact (show W = W2 from hr) ▸ h
          | 3, hij, hord, hui, hr => exact (show W = W2 from hr) ▸ h
          | 4, hij, hord, hui, hr => exact (show W = W2 from hr) ▸ h
          | 5, hij, hord, hui, hr => exact (show W = W2 from hr) ▸ h
          | 6, hij, hord, hui, hr => exact (show W = W2 from hr) ▸ h
          | 7, hij, hord, hui, hr => exact (show W = W2 from hr) ▸ h
          | 8, hij, hord, hui, hr => exact (show W = W2 from hr) ▸ h
          | 9, hij, hord, hui, hr => exact (show W = W2 from hr) ▸ h
          | 10, hij, hord, hui, hr => exact (show W = W2 from hr) ▸ h
          | 11, hij, hord, hui, hr => exact (show W = W2 from hr) ▸ h
          | 12, hij, hord, hui, hr => exact (show W = W2 from hr) ▸ h
          | 13, hij, hord, hui, hr => exact (show W = W2 from hr) ▸ h
          | 14, hij, hord, hui, hr => exact (show W = W2 from hr) ▸ h
          | 15, hij, hord, hui, hr => exact (show W = W2 from hr) ▸ h
          | 16, hij, hord, hui, hr => exact (show W = W2 from hr) ▸ h
          | 17, hij, hord, hui, hr => exact (show W = W2 from hr) ▸ h
          | 18, hij, hord, hui, hr => exact (show W = W2 from hr) ▸ h
          | 19, hij, hord, hui, hr => exact (show W = W2 from hr) ▸ h
          | 20, hij, hord, hui, hr => exact (show W = W2 from hr) ▸ h
          | 21, hij, hord, hui, hr => exact (show W = W2 from hr) ▸ h
          | 22, hij, hord, hui, hr => exact (show W = W2 from hr) ▸ h
          | 23, hij, hord, hui, hr => exact (show W = W2 from hr) ▸ h
          | 24, hij, hord, hui, hr => exact (show W = W2 from hr) ▸ h
          | 25, hij, hord, hui, hr => exact (show W = W2 from hr) ▸ h
          | 26, hij, hord, hui, hr => exact (show W = W2 from hr) ▸ h
          | 27, hij, hord, hui, hr => exact (show W = W2 from hr) ▸ h
          | 28, hij, hord, hui, hr => exact (show W = W2 from hr) ▸ h
          | 29, hij, hord, hui, hr => exact (show W = W2 from hr) ▸ h
          | 30, hij, hord, hui, hr => exact (show W = W2 from hr) ▸ h
          | 31, hij, hord, hui, hr => exact (show W = W2 from hr) ▸ h
          | 32, hij, hord, hui, hr => exact (show W = W2 from hr) ▸ h
          | 33, hij, hord, hui, hr => exact (show W = W2 from hr) ▸ h
          | 34, hij, hord, hui, hr => exact (show W = W2 from hr) ▸ h
          | 35, hij, hord, hui, hr =>
            match jX, hij, hord, h with
            | 0, hij, hord, h => exact h
            | 1, hij, hord, h => exact h
            | 2, hij, hord, h => exact h
            | 3, hij, hord, h => exact h
            | 4, hij, hord, h => exact h
            | 5, hij, hord, h => exact h
            | 6, hij, hord, h => exact h
            | 7, hij, hord, h => exact h
            | 8, hij, hord, h => exact h
            | 9, hij, hord, h => exact h
            | 10, hij, hord, h => exact anc_no hord (by kernel_rfl)
            | 11, hij, hord, h => exact anc_no hord (by kernel_rfl)
            | 12, hij, hord, h => exact h
            | 13, hij, hord, h => exact anc_no hord (by kernel_rfl)
            | 14, hij, hord, h => exact h
            | 15, hij, hord, h => exact h
            | 16, hij, hord, h => exact h
            | 17, hij, hord, h => exact h
            | 18, hij, hord, h => exact h
            | 19, hij, hord, h => exact anc_no hord (by kernel_rfl)
            | 20, hij, hord, h => exact h
            | 21, hij, hord, h => exact anc_no hord (by kernel_rfl)
            | 22, hij, hord, h => exact h
            | 23, hij, hord, h => exact h
            | 24, hij, hord, h => exact h
            | 25, hij, hord, h => exact h
            | 26, hij, hord, h => exact h
            | 27, hij, hord, h => exact h
            | 28, hij, hord, h => exact anc_no hord (by kernel_rfl)
            | 29, hij, hord, h => exact h
            | 30, hij, hord, h => exact h
            | 31, hij, hord, h => exact h
            | 32, hij, hord, h => exact h
            | 33, hij, hord, h => exact h
            | 34, hij, hord, h => exact h
            | 35, hij, hord, h => exact absurd rfl hij
            | 36, hij, hord, h => exact h
            | 37, hij, hord, h => exact h
            | nX + 38, hij, hord, h => exact h
          | 36, hij, hord, hui, hr => exact (show W = W2 from hr) ▸ h
          | 37, hij, hord, hui, hr => exact (show W = W2 from hr) ▸ h
          | nX + 38, hij, hord, hui, hr => exact (show W = W2 from hr) ▸ h
        · intro iX jX v W W2 hij hord hi hui hr h
          match iX, hij, hord, hui, hr with
          | 0, hij, hord, hui, hr => exact (show W = W2 from hr) ▸ h
          | 1, hij, hord, hui, hr => exact (show W = W2 from hr) ▸ h
          | 2, hij, hord, hui, hr => exact (show W = W2 from hr) ▸ h
          | 3, hij, hord, hui, hr => exact (show W = W2 from hr) ▸ h
          | 4, hij, hord, hui, hr => exact (show W = W2 from hr) ▸ h
          | 5, hij, hord, hui, hr => exact (show W = W2 from hr) ▸ h
          | 6, hij, hord, hui, hr => exact (show W = W2 from hr) ▸ h
          | 7, hij, hord, hui, hr => exact (show W = W2 from hr) ▸ h
          | 8, hij, hord, hui, hr => exact (show W = W2 from hr) ▸ h
          | 9, hij, hord, hui, hr => exact (show W = W2 from hr) ▸ h
          | 10, hij, hord, hui, hr => exact (show W = W2 from hr) ▸ h
          | 11, hij, hord, hui, hr => exact (show W = W2 from hr) ▸ h
          | 12, hij, hord, hui, hr => exact (show W = W2 from hr) ▸ h
          | 13, hij, hord, hui, hr => exact (show W = W2 from hr) ▸ h
          | 14, hij, hord, hui, hr => exact (show W = W2 from hr) ▸ h
          | 15, hij, hord, hui, hr => exact (show W = W2 from hr) ▸ h
          | 16, hij, hord, hui, hr => exact (show W = W2 from hr) ▸ h
          | 17, hij, hord, hui, hr => exact (show W = W2 from hr) ▸ h
          | 18, hij, hord, hui, hr => exact (show W = W2 from hr) ▸ h
          | 19, hij, hord, hui, hr => exact (show W = W2 from hr) ▸ h
          | 20, hij, hord, hui, hr => exact (show W = W2 from hr) ▸ h
          | 21, hij, hord, hui, hr => exact (show W = W2 from hr) ▸ h
          | 22, hij, hord, hui, hr => exact (show W = W2 from hr) ▸ h
          | 23, hij, hord, hui, hr => exact (show W = W2 from hr) ▸ h
          | 24, hij, hord, hui, hr => exact (show W = W2 from hr) ▸ h
          | 25, hij, hord, hui, hr => exact (show W = W2 from hr) ▸ h
          | 26, hij, hord, hui, hr => exact (show W = W2 from hr) ▸ h
          | 27, hij, hord, hui, hr => exact (show W = W2 from hr) ▸ h
          | 28, hij, hord, hui, hr => exact (show W = W2 from hr) ▸ h
          | 29, hij, hord, hui, hr => exact (show W = W2 from hr) ▸ h
          | 30, hij, hord, hui, hr => exact (show W = W2 from hr) ▸ h
          | 31, hij, hord, hui, hr => exact (show W = W2 from hr) ▸ h
          | 32, hij, hord, hui, hr => exact (show W = W2 from hr) ▸ h
          | 33, hij, hord, hui, hr => exact (show W = W2 from hr) ▸ h
          | 34, hij, hord, hui, hr => exact (show W = W2 from hr) ▸ h
          | 35, hij, hord, hui, hr =>
            match jX, hij, hord, h with
            | 0, hij, hord, h => exact h
            | 1, hij, hord, h => exact h
            | 2, hij, hord, h => exact h
            | 3, hij, hord, h => exact h
            | 4, hij, hord, h => exact h
            | 5, hij, hord, h => exact h
            | 6, hij, hord, h => exact h
            | 7, hij, hord, h => exact h
            | 8, hij, hord, h => exact h
            | 9, hij, hord, h => exact h
            | 10, hij, hord, h => exact h
            | 11, hij, hord, h => exact h
            | 12, hij, hord, h => exact h
            | 13, hij, hord, h => exact h
            | 14, hij, hord, h => exact h
            | 15, hij, hord, h => exact h
            | 16, hij, hord, h => exact h
            | 17, hij, hord, h => exact h
            | 18, hij, hord, h => exact h
            | 19, hij, hord, h => exact h
            | 20, hij, hord, h => exact h
            | 21, hij, hord, h => exact h
            | 22, hij, hord, h => exact h
            | 23, hij, hord, h => exact h
            | 24, hij, hord, h => exact h
            | 25, hij, hord, h => exact h
            | 26, hij, hord, h => exact h
            | 27, hij, hord, h => exact h
            | 28, hij, hord, h => exact h
            | 29, hij, hord, h => exact h
            | 30, hij, hord, h => exact h
            | 31, hij, hord, h => exact h
            | 32, hij, hord, h => exact h
            | 33, hij, hord, h => exact h
            | 34, hij, hord, h => exact h
            | 35, hij, hord, h => exact absurd rfl hij
            | 36, hij, hord, h => exact h
            | 37, hij, hord, h => exact h
            | nX + 38, hij, hord, h => exact h
          | 36, hij, hord, hui, hr => exact (show W = W2 from hr) ▸ h
          | 37, hij, hord, hui, hr => exact (show W = W2 from hr) ▸ h
          | nX + 38, hij, hord, hui, hr => exact (show W = W2 from hr) ▸ h
        · intro iX o ho a W hN hi hui h
          match iX, ho, hui with
          | 0, ho, hui =>
            obtain rfl := Option.some.inj (show some _ = some o from ho)
            have e11 : a.eval (.tmp 11) = .int .i64 0 := hN.eval 11 (by kernel_rfl)
            refine fill_value (v := .int .i64 0) ho rfl (by rfl) (by clear h hN; have hcst : ∀ v, a.eval (.const v) = v := (fun _ => rfl); have hfun : ∀ f, a.eval (.func f) = .func (.func f) #[] #[] := (fun _ => rfl); generalize a.eval = ρ at *; go_simp) rfl (show W = W from rfl)
          | 1, ho, hui =>
            obtain rfl := Option.some.inj (show some _ = some o from ho)
            have e58 : a.eval (.tmp 58) = .int .i64 0 := h ⟨0, .data⟩ (by simp) rfl
            refine fill_value (v := .bool false) ho rfl (by rfl) (by clear h hN; have hcst : ∀ v, a.eval (.const v) = v := (fun _ => rfl); have hfun : ∀ f, a.eval (.func f) = .func (.func f) #[] #[] := (fun _ => rfl); generalize a.eval = ρ at *; go_simp) rfl (show W = W from rfl)
          | 2, ho, hui =>
            obtain rfl := Option.some.inj (show some _ = some o from ho)
            have e59 : a.eval (.tmp 59) = .bool false := h ⟨1, .data⟩ (by simp) rfl
            refine fill_value (v := .bool false) ho rfl (by rfl) (by clear h hN; have hcst : ∀ v, a.eval (.const v) = v := (fun _ => rfl); have hfun : ∀ f, a.eval (.func f) = .func (.func f) #[] #[] := (fun _ => rfl); generalize a.eval = ρ at *; go_simp) rfl (show W = W from rfl)
          | 3, ho, hui =>
            obtain rfl := Option.some.inj (show some _ = some o from ho)
            have e10 : a.eval (.tmp 10) = .slice (some ⟨gR, 0, none⟩) 2 cR := hN.eval 10 (by kernel_rfl)
            refine fill_value (v := .slice (some ⟨gR, 0, none⟩) 2 cR) ho rfl (guard_is false rfl rfl (show a.eval (.tmp 60) = .bool false from h ⟨2, .guard⟩ (by simp) rfl)) (by clear h hN; have hcst : ∀ v, a.eval (.const v) = v := (fun _ => rfl); have hfun : ∀ f, a.eval (.func f) = .func (.func f) #[] #[] := (fun _ => rfl); generalize a.eval = ρ at *; go_simp) rfl (show W = W from rfl)
          | 4, ho, hui =>
            obtain rfl := Option.some.inj (show some _ = some o from ho)
            have e61 : a.eval (.tmp 61) = .slice (some ⟨gR, 0, none⟩) 2 cR := h ⟨3, .data⟩ (by simp) rfl
            refine fill_value (v := .int .i64 2) ho rfl (guard_is false rfl rfl (show a.eval (.tmp 60) = .bool false from h ⟨2, .guard⟩ (by simp) rfl)) (by clear h hN; have hcst : ∀ v, a.eval (.const v) = v := (fun _ => rfl); have hfun : ∀ f, a.eval (.func f) = .func (.func f) #[] #[] := (fun _ => rfl); generalize a.eval = ρ at *; go_simp) rfl (show W = W from rfl)
          | 5, ho, hui =>
            obtain rfl := Option.some.inj (show some _ = some o from ho)
            have e62 : a.eval (.tmp 62) = .int .i64 2 := h ⟨4, .data⟩ (by simp) rfl
            refine fill_value (v := .bool false) ho rfl (guard_is false rfl rfl (show a.eval (.tmp 60) = .bool false from h ⟨2, .guard⟩ (by simp) rfl)) (by clear h hN; have hcst : ∀ v, a.eval (.const v) = v := (fun _ => rfl); have hfun : ∀ f, a.eval (.func f) = .func (.func f) #[] #[] := (fun _ => rfl); generalize a.eval = ρ at *; go_simp) rfl (show W = W from rfl)
          | 6, ho, hui =>
            obtain rfl := Option.some.inj (show some _ = some o from ho)
            have e60 : a.eval (.tmp 60) = .bool false := h ⟨2, .data⟩ (by simp) rfl
            have e63 : a.eval (.tmp 63) = .bool false := h ⟨5, .data⟩ (by simp) rfl
            refine fill_value (v := .bool false) ho rfl (by rfl) (by clear h hN; have hcst : ∀ v, a.eval (.const v) = v := (fun _ => rfl); have hfun : ∀ f, a.eval (.func f) = .func (.func f) #[] #[] := (fun _ => rfl); generalize a.eval = ρ at *; go_simp) rfl (show W = W from rfl)
          | 7, ho, hui =>
            obtain rfl := Option.some.inj (show some _ = some o from ho)
            have e64 : a.eval (.tmp 64) = .bool false := h ⟨6, .data⟩ (by simp) rfl
            refine fill_value (v := .bool false) ho rfl (by rfl) (by clear h hN; have hcst : ∀ v, a.eval (.const v) = v := (fun _ => rfl); have hfun : ∀ f, a.eval (.func f) = .func (.func f) #[] #[] := (fun _ => rfl); generalize a.eval = ρ at *; go_simp) rfl (show W = W from rfl)
          | 8, ho, hui =>
            obtain rfl := Option.some.inj (show some _ = some o from ho)
            have e10 : a.eval (.tmp 10) = .slice (some ⟨gR, 0, none⟩) 2 cR := hN.eval 10 (by kernel_rfl)
            refine fill_value (v := .slice (some ⟨gR, 0, none⟩) 2 cR) ho rfl (guard_is false rfl rfl (show a.eval (.tmp 65) = .bool false from h ⟨7, .guard⟩ (by simp) rfl)) (by clear h hN; have hcst : ∀ v, a.eval (.const v) = v := (fun _ => rfl); have hfun : ∀ f, a.eval (.func f) = .func (.func f) #[] #[] := (fun _ => rfl); generalize a.eval = ρ at *; go_simp) rfl (show W = W from rfl)
          | 9, ho, hui =>
            obtain rfl := Option.some.inj (show some _ = some o from ho)
            have e66 : a.eval (.tmp 66) = .slice (some ⟨gR, 0, none⟩) 2 cR := h ⟨8, .data⟩ (by simp) rfl
            refine fill_value (v := .pointer (some ⟨gR, 0, none⟩)) ho rfl (guard_is false rfl rfl (show a.eval (.tmp 65) = .bool false from h ⟨7, .guard⟩ (by simp) rfl)) (by clear h hN; have hcst : ∀ v, a.eval (.const v) = v := (fun _ => rfl); have hfun : ∀ f, a.eval (.func f) = .func (.func f) #[] #[] := (fun _ => rfl); generalize a.eval = ρ at *; go_simp) rfl (show W = W from rfl)
          | 10, ho, hui =>
            obtain rfl := Option.some.inj (show some _ = some o from ho)
            have e67 : a.eval (.tmp 67) = .pointer (some ⟨gR, 0, none⟩) := h ⟨9, .data⟩ (by simp) rfl
            have hc := HC0.out W hui
            refine fill_value (v := .slice (some ⟨g0, 0, none⟩) q c0) ho rfl (guard_is false rfl rfl (show a.eval (.tmp 65) = .bool false from h ⟨7, .guard⟩ (by simp) rfl)) (by clear h hN; have hcst : ∀ v, a.eval (.const v) = v := (fun _ => rfl); have hfun : ∀ f, a.eval (.func f) = .func (.func f) #[] #[] := (fun _ => rfl); generalize a.eval = ρ at *; go_simp) rfl (show W = W from rfl)
          | 11, ho, hui =>
            obtain rfl := Option.some.inj (show some _ = some o from ho)
            have e68 : a.eval (.tmp 68) = .slice (some ⟨g0, 0, none⟩) q c0 := h ⟨10, .data⟩ (by simp) rfl
            have hcv := HCv.out W hui
            refine fill_value (v := .string t0) ho rfl (guard_is false rfl rfl (show a.eval (.tmp 65) = .bool false from h ⟨7, .guard⟩ (by simp) rfl)) (by clear h hN; have hcst : ∀ v, a.eval (.const v) = v := (fun _ => rfl); have hfun : ∀ f, a.eval (.func f) = .func (.func f) #[] #[] := (fun _ => rfl); generalize a.eval = ρ at *; go_simp) rfl (show W = W from rfl)
          | 12, ho, hui =>
            obtain rfl := Option.some.inj (show some _ = some o from ho)
            have e1 : a.eval (.tmp 1) = .slice (some x) q cap := hN.eval 1 (by kernel_rfl)
            refine fill_value (v := .slice (some x) q cap) ho rfl (guard_is false rfl rfl (show a.eval (.tmp 65) = .bool false from h ⟨7, .guard⟩ (by simp) rfl)) (by clear h hN; have hcst : ∀ v, a.eval (.const v) = v := (fun _ => rfl); have hfun : ∀ f, a.eval (.func f) = .func (.func f) #[] #[] := (fun _ => rfl); generalize a.eval = ρ at *; go_simp) rfl (show W = W from rfl)
          | 13, ho, hui =>
            obtain rfl := Option.some.inj (show some _ = some o from ho)
            have e70 : a.eval (.tmp 70) = .slice (some x) q cap := h ⟨12, .data⟩ (by simp) rfl
            have hcv := HCb.out W hui
            refine fill_value (v := .string t0) ho rfl (guard_is false rfl rfl (show a.eval (.tmp 65) = .bool false from h ⟨7, .guard⟩ (by simp) rfl)) (by clear h hN; have hcst : ∀ v, a.eval (.const v) = v := (fun _ => rfl); have hfun : ∀ f, a.eval (.func f) = .func (.func f) #[] #[] := (fun _ => rfl); generalize a.eval = ρ at *; go_simp) rfl (show W = W from rfl)
          | 14, ho, hui =>
            obtain rfl := Option.some.inj (show some _ = some o from ho)
            have e69 : a.eval (.tmp 69) = .string t0 := h ⟨11, .data⟩ (by simp) rfl
            have e71 : a.eval (.tmp 71) = .string t0 := h ⟨13, .data⟩ (by simp) rfl
            refine fill_value (v := .bool false) ho rfl (guard_is false rfl rfl (show a.eval (.tmp 65) = .bool false from h ⟨7, .guard⟩ (by simp) rfl)) (by clear h hN; have hcst : ∀ v, a.eval (.const v) = v := (fun _ => rfl); have hfun : ∀ f, a.eval (.func f) = .func (.func f) #[] #[] := (fun _ => rfl); generalize a.eval = ρ at *; go_simp) rfl (show W = W from rfl)
          | 15, ho, hui =>
            obtain rfl := Option.some.inj (show some _ = some o from ho)
            have e65 : a.eval (.tmp 65) = .bool false := h ⟨7, .data⟩ (by simp) rfl
            have e72 : a.eval (.tmp 72) = .bool false := h ⟨14, .data⟩ (by simp) rfl
            refine fill_value (v := .bool false) ho rfl (by rfl) (by clear h hN; have hcst : ∀ v, a.eval (.const v) = v := (fun _ => rfl); have hfun : ∀ f, a.eval (.func f) = .func (.func f) #[] #[] := (fun _ => rfl); generalize a.eval = ρ at *; go_simp) rfl (show W = W from rfl)
          | 16, ho, hui =>
            obtain rfl := Option.some.inj (show some _ = some o from ho)
            have e73 : a.eval (.tmp 73) = .bool false := h ⟨15, .data⟩ (by simp) rfl
            refine fill_value (v := .bool false) ho rfl (by rfl) (by clear h hN; have hcst : ∀ v, a.eval (.const v) = v := (fun _ => rfl); have hfun : ∀ f, a.eval (.func f) = .func (.func f) #[] #[] := (fun _ => rfl); generalize a.eval = ρ at *; go_simp) rfl (show W = W from rfl)
          | 17, ho, hui =>
            obtain rfl := Option.some.inj (show some _ = some o from ho)
            have e10 : a.eval (.tmp 10) = .slice (some ⟨gR, 0, none⟩) 2 cR := hN.eval 10 (by kernel_rfl)
            refine fill_value (v := .slice (some ⟨gR, 0, none⟩) 2 cR) ho rfl (guard_is false rfl rfl (show a.eval (.tmp 74) = .bool false from h ⟨16, .guard⟩ (by simp) rfl)) (by clear h hN; have hcst : ∀ v, a.eval (.const v) = v := (fun _ => rfl); have hfun : ∀ f, a.eval (.func f) = .func (.func f) #[] #[] := (fun _ => rfl); generalize a.eval = ρ at *; go_simp) rfl (show W = W from rfl)
          | 18, ho, hui =>
            obtain rfl := Option.some.inj (show some _ = some o from ho)
            have e75 : a.eval (.tmp 75) = .slice (some ⟨gR, 0, none⟩) 2 cR := h ⟨17, .data⟩ (by simp) rfl
            refine fill_value (v := .pointer (some ⟨gR, 1, none⟩)) ho rfl (guard_is false rfl rfl (show a.eval (.tmp 74) = .bool false from h ⟨16, .guard⟩ (by simp) rfl)) (by clear h hN; have hcst : ∀ v, a.eval (.const v) = v := (fun _ => rfl); have hfun : ∀ f, a.eval (.func f) = .func (.func f) #[] #[] := (fun _ => rfl); generalize a.eval = ρ at *; go_simp) rfl (show W = W from rfl)
          | 19, ho, hui =>
            obtain rfl := Option.some.inj (show some _ = some o from ho)
            have e76 : a.eval (.tmp 76) = .pointer (some ⟨gR, 1, none⟩) := h ⟨18, .data⟩ (by simp) rfl
            have hc := HC1.out W hui
            refine fill_value (v := .slice (some ⟨g1, 0, none⟩) 1 c1) ho rfl (guard_is false rfl rfl (show a.eval (.tmp 74) = .bool false from h ⟨16, .guard⟩ (by simp) rfl)) (by clear h hN; have hcst : ∀ v, a.eval (.const v) = v := (fun _ => rfl); have hfun : ∀ f, a.eval (.func f) = .func (.func f) #[] #[] := (fun _ => rfl); generalize a.eval = ρ at *; go_simp) rfl (show W = W from rfl)
          | 20, ho, hui =>
            obtain rfl := Option.some.inj (show some _ = some o from ho)
            have e77 : a.eval (.tmp 77) = .slice (some ⟨g1, 0, none⟩) 1 c1 := h ⟨19, .data⟩ (by simp) rfl
            refine fill_value (v := .pointer (some ⟨g1, 0, none⟩)) ho rfl (guard_is false rfl rfl (show a.eval (.tmp 74) = .bool false from h ⟨16, .guard⟩ (by simp) rfl)) (by clear h hN; have hcst : ∀ v, a.eval (.const v) = v := (fun _ => rfl); have hfun : ∀ f, a.eval (.func f) = .func (.func f) #[] #[] := (fun _ => rfl); generalize a.eval = ρ at *; go_simp) rfl (show W = W from rfl)
          | 21, ho, hui =>
            obtain rfl := Option.some.inj (show some _ = some o from ho)
            have e78 : a.eval (.tmp 78) = .pointer (some ⟨g1, 0, none⟩) := h ⟨20, .data⟩ (by simp) rfl
            have hc := HC2.out W hui
            refine fill_value (v := .int .u8 (j : Int)) ho rfl (guard_is false rfl rfl (show a.eval (.tmp 74) = .bool false from h ⟨16, .guard⟩ (by simp) rfl)) (by clear h hN; have hcst : ∀ v, a.eval (.const v) = v := (fun _ => rfl); have hfun : ∀ f, a.eval (.func f) = .func (.func f) #[] #[] := (fun _ => rfl); generalize a.eval = ρ at *; go_simp) rfl (show W = W from rfl)
          | 22, ho, hui =>
            obtain rfl := Option.some.inj (show some _ = some o from ho)
            have e8 : a.eval (.tmp 8) = .int .i64 (j : Int) := hN.eval 8 (by kernel_rfl)
            refine fill_value (v := .int .i64 (j : Int)) ho rfl (guard_is false rfl rfl (show a.eval (.tmp 74) = .bool false from h ⟨16, .guard⟩ (by simp) rfl)) (by clear h hN; have hcst : ∀ v, a.eval (.const v) = v := (fun _ => rfl); have hfun : ∀ f, a.eval (.func f) = .func (.func f) #[] #[] := (fun _ => rfl); generalize a.eval = ρ at *; go_simp) rfl (show W = W from rfl)
          | 23, ho, hui =>
            obtain rfl := Option.some.inj (show some _ = some o from ho)
            have e80 : a.eval (.tmp 80) = .int .i64 (j : Int) := h ⟨22, .data⟩ (by simp) rfl
            refine fill_value (v := .int .u8 (j : Int)) ho rfl (guard_is false rfl rfl (show a.eval (.tmp 74) = .bool false from h ⟨16, .guard⟩ (by simp) rfl)) (by clear h hN; have hcst : ∀ v, a.eval (.const v) = v := (fun _ => rfl); have hfun : ∀ f, a.eval (.func f) = .func (.func f) #[] #[] := (fun _ => rfl); generalize a.eval = ρ at *; go_simp) rfl (show W = W from rfl)
          | 24, ho, hui =>
            obtain rfl := Option.some.inj (show some _ = some o from ho)
            have e79 : a.eval (.tmp 79) = .int .u8 (j : Int) := h ⟨21, .data⟩ (by simp) rfl
            have e81 : a.eval (.tmp 81) = .int .u8 (j : Int) := h ⟨23, .data⟩ (by simp) rfl
            refine fill_value (v := .bool false) ho rfl (guard_is false rfl rfl (show a.eval (.tmp 74) = .bool false from h ⟨16, .guard⟩ (by simp) rfl)) (by clear h hN; have hcst : ∀ v, a.eval (.const v) = v := (fun _ => rfl); have hfun : ∀ f, a.eval (.func f) = .func (.func f) #[] #[] := (fun _ => rfl); generalize a.eval = ρ at *; go_simp) rfl (show W = W from rfl)
          | 25, ho, hui =>
            obtain rfl := Option.some.inj (show some _ = some o from ho)
            have e74 : a.eval (.tmp 74) = .bool false := h ⟨16, .data⟩ (by simp) rfl
            have e82 : a.eval (.tmp 82) = .bool false := h ⟨24, .data⟩ (by simp) rfl
            refine fill_value (v := .bool false) ho rfl (by rfl) (by clear h hN; have hcst : ∀ v, a.eval (.const v) = v := (fun _ => rfl); have hfun : ∀ f, a.eval (.func f) = .func (.func f) #[] #[] := (fun _ => rfl); generalize a.eval = ρ at *; go_simp) rfl (show W = W from rfl)
          | 26, ho, hui =>
            obtain rfl := Option.some.inj (show some _ = some o from ho)
            have e83 : a.eval (.tmp 83) = .bool false := h ⟨25, .data⟩ (by simp) rfl
            refine fill_value (v := .bool false) ho rfl (by rfl) (by clear h hN; have hcst : ∀ v, a.eval (.const v) = v := (fun _ => rfl); have hfun : ∀ f, a.eval (.func f) = .func (.func f) #[] #[] := (fun _ => rfl); generalize a.eval = ρ at *; go_simp) rfl (show W = W from rfl)
          | 27, ho, hui =>
            obtain rfl := Option.some.inj (show some _ = some o from ho)
            have e9 : a.eval (.tmp 9) = .pointer (some ⟨o, 0, none⟩) := hN.eval 9 (by kernel_rfl)
            refine fill_value (v := .pointer (some ⟨o, 0, none⟩)) ho rfl (guard_is false rfl rfl (show a.eval (.tmp 84) = .bool false from h ⟨26, .guard⟩ (by simp) rfl)) (by clear h hN; have hcst : ∀ v, a.eval (.const v) = v := (fun _ => rfl); have hfun : ∀ f, a.eval (.func f) = .func (.func f) #[] #[] := (fun _ => rfl); generalize a.eval = ρ at *; go_simp) rfl (show W = W from rfl)
          | 28, ho, hui =>
            obtain rfl := Option.some.inj (show some _ = some o from ho)
            have e85 : a.eval (.tmp 85) = .pointer (some ⟨o, 0, none⟩) := h ⟨27, .data⟩ (by simp) rfl
            refine fill_enter (f := 14) (args := #[.pointer (some ⟨o, 0, none⟩)]) ho rfl (guard_is false rfl rfl (show a.eval (.tmp 84) = .bool false from h ⟨26, .guard⟩ (by simp) rfl)) (by clear h hN; have hcst : ∀ v, a.eval (.const v) = v := (fun _ => rfl); have hfun : ∀ f, a.eval (.func f) = .func (.func f) #[] #[] := (fun _ => rfl); generalize a.eval = ρ at *; go_simp) (HAge.out W hui) ?_
            rintro e w2 ⟨rfl, rfl⟩
            exact ⟨_, rfl, rfl, (show W = W from rfl)⟩
          | 29, ho, hui =>
            obtain rfl := Option.some.inj (show some _ = some o from ho)
            have e8 : a.eval (.tmp 8) = .int .i64 (j : Int) := hN.eval 8 (by kernel_rfl)
            refine fill_value (v := .int .i64 (j : Int)) ho rfl (guard_is false rfl rfl (show a.eval (.tmp 84) = .bool false from h ⟨26, .guard⟩ (by simp) rfl)) (by clear h hN; have hcst : ∀ v, a.eval (.const v) = v := (fun _ => rfl); have hfun : ∀ f, a.eval (.func f) = .func (.func f) #[] #[] := (fun _ => rfl); generalize a.eval = ρ at *; go_simp) rfl (show W = W from rfl)
          | 30, ho, hui =>
            obtain rfl := Option.some.inj (show some _ = some o from ho)
            have e87 : a.eval (.tmp 87) = .int .i64 (j : Int) := h ⟨29, .data⟩ (by simp) rfl
            refine fill_value (v := .int .i64 ((j : Int) + 1)) ho rfl (guard_is false rfl rfl (show a.eval (.tmp 84) = .bool false from h ⟨26, .guard⟩ (by simp) rfl)) (by clear h hN; have hcst : ∀ v, a.eval (.const v) = v := (fun _ => rfl); have hfun : ∀ f, a.eval (.func f) = .func (.func f) #[] #[] := (fun _ => rfl); generalize a.eval = ρ at *; go_simp) rfl (show W = W from rfl)
          | 31, ho, hui =>
            obtain rfl := Option.some.inj (show some _ = some o from ho)
            have e86 : a.eval (.tmp 86) = .int .i64 ((j : Int) + 1) := h ⟨28, .data⟩ (by simp) rfl
            have e88 : a.eval (.tmp 88) = .int .i64 ((j : Int) + 1) := h ⟨30, .data⟩ (by simp) rfl
            refine fill_value (v := .bool false) ho rfl (guard_is false rfl rfl (show a.eval (.tmp 84) = .bool false from h ⟨26, .guard⟩ (by simp) rfl)) (by clear h hN; have hcst : ∀ v, a.eval (.const v) = v := (fun _ => rfl); have hfun : ∀ f, a.eval (.func f) = .func (.func f) #[] #[] := (fun _ => rfl); generalize a.eval = ρ at *; go_simp) rfl (show W = W from rfl)
          | 32, ho, hui =>
            obtain rfl := Option.some.inj (show some _ = some o from ho)
            have e84 : a.eval (.tmp 84) = .bool false := h ⟨26, .data⟩ (by simp) rfl
            have e89 : a.eval (.tmp 89) = .bool false := h ⟨31, .data⟩ (by simp) rfl
            refine fill_value (v := .bool false) ho rfl (by rfl) (by clear h hN; have hcst : ∀ v, a.eval (.const v) = v := (fun _ => rfl); have hfun : ∀ f, a.eval (.func f) = .func (.func f) #[] #[] := (fun _ => rfl); generalize a.eval = ρ at *; go_simp) rfl (show W = W from rfl)
          | 33, ho, hui =>
            obtain rfl := Option.some.inj (show some _ = some o from ho)
            have e90 : a.eval (.tmp 90) = .bool false := h ⟨32, .data⟩ (by simp) rfl
            refine fill_value (v := .bool false) ho rfl (by rfl) (by clear h hN; have hcst : ∀ v, a.eval (.const v) = v := (fun _ => rfl); have hfun : ∀ f, a.eval (.func f) = .func (.func f) #[] #[] := (fun _ => rfl); generalize a.eval = ρ at *; go_simp) rfl (show W = W from rfl)
          | 34, ho, hui =>
            obtain rfl := Option.some.inj (show some _ = some o from ho)
            have e9 : a.eval (.tmp 9) = .pointer (some ⟨o, 0, none⟩) := hN.eval 9 (by kernel_rfl)
            refine fill_value (v := .pointer (some ⟨o, 0, none⟩)) ho rfl (guard_is false rfl rfl (show a.eval (.tmp 91) = .bool false from h ⟨33, .guard⟩ (by simp) rfl)) (by clear h hN; have hcst : ∀ v, a.eval (.const v) = v := (fun _ => rfl); have hfun : ∀ f, a.eval (.func f) = .func (.func f) #[] #[] := (fun _ => rfl); generalize a.eval = ρ at *; go_simp) rfl (show W = W from rfl)
          | 35, ho, hui =>
            obtain rfl := Option.some.inj (show some _ = some o from ho)
            have e92 : a.eval (.tmp 92) = .pointer (some ⟨o, 0, none⟩) := h ⟨34, .data⟩ (by simp) rfl
            refine fill_enter (f := 13) (args := #[.pointer (some ⟨o, 0, none⟩)]) ho rfl (guard_is false rfl rfl (show a.eval (.tmp 91) = .bool false from h ⟨33, .guard⟩ (by simp) rfl)) (by clear h hN; have hcst : ∀ v, a.eval (.const v) = v := (fun _ => rfl); have hfun : ∀ f, a.eval (.func f) = .func (.func f) #[] #[] := (fun _ => rfl); generalize a.eval = ρ at *; go_simp) (HTr.out W hui) ?_
            rintro e w2 ⟨rfl, h5, h6⟩
            exact ⟨_, rfl, ⟨rfl, h5.out⟩, h6.out⟩
          | 36, ho, hui =>
            obtain rfl := Option.some.inj (show some _ = some o from ho)
            obtain ⟨e93, p93⟩ : a.eval (.tmp 93) = .int .i64 0 ∧ ∃ s hd, Lg w.heap.size W g o 18 s 2 16 (((j + 1 : Nat) : Int) + 1) hd [] 4 (20 + 13 * (j + 1)) ∧ Quiet s := h ⟨35, .data⟩ (by simp) rfl
            refine fill_value (v := .bool false) ho rfl (guard_is false rfl rfl (show a.eval (.tmp 91) = .bool false from h ⟨33, .guard⟩ (by simp) rfl)) (by clear h hN; have hcst : ∀ v, a.eval (.const v) = v := (fun _ => rfl); have hfun : ∀ f, a.eval (.func f) = .func (.func f) #[] #[] := (fun _ => rfl); generalize a.eval = ρ at *; go_simp) rfl (show W = W from rfl)
          | 37, ho, hui =>
            obtain rfl := Option.some.inj (show some _ = some o from ho)
            have e91 : a.eval (.tmp 91) = .bool false := h ⟨33, .data⟩ (by simp) rfl
            have e94 : a.eval (.tmp 94) = .bool false := h ⟨36, .data⟩ (by simp) rfl
            refine fill_value (v := .bool false) ho rfl (by rfl) (by clear h hN; have hcst : ∀ v, a.eval (.const v) = v := (fun _ => rfl); have hfun : ∀ f, a.eval (.func f) = .func (.func f) #[] #[] := (fun _ => rfl); generalize a.eval = ρ at *; go_simp) rfl (show W = W from rfl)
          | nX + 38, ho, hui => exact absurd ho (by simp)
        · intro vals W hi h
          have u0 : vals 0 = .int .i64 0 := h 0 (by decide)
          have u1 : vals 1 = .bool false := h 1 (by decide)
          have u2 : vals 2 = .bool false := h 2 (by decide)
          have u3 : vals 3 = .slice (some ⟨gR, 0, none⟩) 2 cR := h 3 (by decide)
          have u4 : vals 4 = .int .i64 2 := h 4 (by decide)
          have u5 : vals 5 = .bool false := h 5 (by decide)
          have u6 : vals 6 = .bool false := h 6 (by decide)
          have u7 : vals 7 = .bool false := h 7 (by decide)
          have u8 : vals 8 = .slice (some ⟨gR, 0, none⟩) 2 cR := h 8 (by decide)
          have u9 : vals 9 = .pointer (some ⟨gR, 0, none⟩) := h 9 (by decide)
          have u10 : vals 10 = .slice (some ⟨g0, 0, none⟩) q c0 := h 10 (by decide)
          have u11 : vals 11 = .string t0 := h 11 (by decide)
          have u12 : vals 12 = .slice (some x) q cap := h 12 (by decide)
          have u13 : vals 13 = .string t0 := h 13 (by decide)
          have u14 : vals 14 = .bool false := h 14 (by decide)
          have u15 : vals 15 = .bool false := h 15 (by decide)
          have u16 : vals 16 = .bool false := h 16 (by decide)
          have u17 : vals 17 = .slice (some ⟨gR, 0, none⟩) 2 cR := h 17 (by decide)
          have u18 : vals 18 = .pointer (some ⟨gR, 1, none⟩) := h 18 (by decide)
          have u19 : vals 19 = .slice (some ⟨g1, 0, none⟩) 1 c1 := h 19 (by decide)
          have u20 : vals 20 = .pointer (some ⟨g1, 0, none⟩) := h 20 (by decide)
          have u21 : vals 21 = .int .u8 (j : Int) := h 21 (by decide)
          have u22 : vals 22 = .int .i64 (j : Int) := h 22 (by decide)
          have u23 : vals 23 = .int .u8 (j : Int) := h 23 (by decide)
          have u24 : vals 24 = .bool false := h 24 (by decide)
          have u25 : vals 25 = .bool false := h 25 (by decide)
          have u26 : vals 26 = .bool false := h 26 (by decide)
          have u27 : vals 27 = .pointer (some ⟨o, 0, none⟩) := h 27 (by decide)
          have u28 : vals 28 = .int .i64 ((j : Int) + 1) := h 28 (by decide)
          have u29 : vals 29 = .int .i64 (j : Int) := h 29 (by decide)
          have u30 : vals 30 = .int .i64 ((j : Int) + 1) := h 30 (by decide)
          have u31 : vals 31 = .bool false := h 31 (by decide)
          have u32 : vals 32 = .bool false := h 32 (by decide)
          have u33 : vals 33 = .bool false := h 33 (by decide)
          have u34 : vals 34 = .pointer (some ⟨o, 0, none⟩) := h 34 (by decide)
          obtain ⟨u35, p35⟩ : vals 35 = .int .i64 0 ∧ ∃ s hd, Lg w.heap.size W g o 18 s 2 16 (((j + 1 : Nat) : Int) + 1) hd [] 4 (20 + 13 * (j + 1)) ∧ Quiet s := h 35 (by decide)
          have u36 : vals 36 = .bool false := h 36 (by decide)
          have u37 : vals 37 = .bool false := h 37 (by decide)
          generalize hA : fill _ _ _ _ = A
          have hA2 : (Act.put (Act.put (Act.put (Act.put (Act.put (Act.put (Act.put (Act.put (Act.put (Act.put (Act.put (Act.put (Act.put (Act.put (Act.put (Act.put (Act.put (Act.put (Act.put (Act.put (Act.put (Act.put (Act.put (Act.put (Act.put (Act.put (Act.put (Act.put (Act.put (Act.put (Act.put (Act.put (Act.put (Act.put (Act.put (Act.put (Act.put (Act.put (_ : Act) (some 58) (vals 0)) (some 59) (vals 1)) (some 60) (vals 2)) (some 61) (vals 3)) (some 62) (vals 4)) (some 63) (vals 5)) (some 64) (vals 6)) (some 65) (vals 7)) (some 66) (vals 8)) (some 67) (vals 9)) (some 68) (vals 10)) (some 69) (vals 11)) (some 70) (vals 12)) (some 71) (vals 13)) (some 72) (vals 14)) (some 73) (vals 15)) (some 74) (vals 16)) (some 75) (vals 17)) (some 76) (vals 18)) (some 77) (vals 19)) (some 78) (vals 20)) (some 79) (vals 21)) (some 80) (vals 22)) (some 81) (vals 23)) (some 82) (vals 24)) (some 83) (vals 25)) (some 84) (vals 26)) (some 85) (vals 27)) (some 86) (vals 28)) (some 87) (vals 29)) (some 88) (vals 30)) (some 89) (vals 31)) (some 90) (vals 32)) (some 91) (vals 33)) (some 92) (vals 34)) (some 93) (vals 35)) (some 94) (vals 36)) (some 95) (vals 37)) = A := hA
          clear hA h V R U
          rw [u0, u1, u2, u3, u4, u5, u6, u7, u8, u9, u10, u11, u12, u13, u14, u15, u16, u17, u18, u19, u20, u21, u22, u23, u24, u25, u26, u27, u28, u29, u30, u31, u32, u33, u34, u35, u36, u37] at hA2
          simp only [fill, Act.put, List.setIfInBounds_toArray, List.set_cons_succ, List.set_cons_zero] at hA2
          subst hA2
          clear u0 u1 u2 u3 u4 u5 u6 u7 u8 u9 u10 u11 u12 u13 u14 u15 u16 u17 u18 u19 u20 u21 u22 u23 u24 u25 u26 u27 u28 u29 u30 u31 u32 u33 u34 u35 u36 u37
          have HL6 := Lib.hid p35
          have HB6 := Lib.hid hi
          clear p35 hi HCv HCb HC0 HC1 HC2 HAge HTr
          obtain ⟨w6, hw6⟩ : ∃ y, y = W := ⟨_, rfl⟩
          subst hw6
          have hw1 : IntKind.i64.wrap ((j : Int) + 1) = ((j + 1 : Nat) : Int) := by rw [IntKind.wrap_i64]; omega
          clear hw2
          go_wp2_with fail
          go_roundw
          case rel => exact ⟨j + 1, o, rfl, rfl, by omega, HL6, HB6⟩
          case measure => simp [intOf]; omega
      · obtain rfl : j = r := by omega
        have HOp : Hid (Calls Tryd.prog 18 #[.pointer (some ⟨g, 0, none⟩), .int .i64 2, .int .i64 14] wr fun e w' => ∃ (l' : Nat) (rs : Value), e = .returned (.tuple #[.pointer (some ⟨l', 0, none⟩), rs, .int .i64 0]) ∧ Hid (RecsAt (wr.heap.size + 1) l' w' rs []) ∧ Hid (Below wr.heap.size wr w')) := Lib.hid (by
          obtain ⟨s, hd, h1, h2⟩ := hlg.out
          refine (lg_again (ct := 14) h1 h2 (by decide) 2 14 rfl rfl).mono ?_
          rintro e w' ⟨l', rs, rfl, a1, a2, a3⟩
          exact ⟨l', rs, rfl, a2, a3⟩)
        go_wp2_with fail
        refine HOp.out.mono ?_
        rintro e w5 ⟨o, rs, rfl, hR, hb5⟩
        have hrn := recs_none hR.out
        subst hrn
        have HAge : Hid (Calls Tryd.prog 14 #[.pointer (some ⟨lj, 0, none⟩)] w5 fun e w' => e = .returned (.int .i64 ((j : Int) + 1)) ∧ w5 = w') := Lib.hid (by
          obtain ⟨s, hd, h1, h2⟩ := hlg.out
          exact age_any (h1.below hb5.out).log)
        have HB5 := Lib.hid (hbl.out.trans (hb5.out.mono hbl.out.size))
        have hw2 : IntKind.i64.wrap ((j : Int) + 1) = (j : Int) + 1 := by rw [IntKind.wrap_i64]; omega
        clear hR hb5 HL2 HB2 HOp
        go_wp2_with fail
        refine HAge.out.mono ?_
        rintro e w6 ⟨rfl, rfl⟩
        go_wp2_with fail
        go_ret
        exact ⟨rfl, HB5.out⟩
end Go.Proofs.YtblaogcobhcpaaaDoor
