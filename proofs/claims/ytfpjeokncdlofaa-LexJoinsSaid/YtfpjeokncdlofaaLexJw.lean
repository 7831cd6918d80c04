/- LexJoins, at whatever two texts. -/
import Derived.Test.YtfpjeokncdlofaaLexJa
import Derived.Deep.CutRange
namespace Go.Proofs.Ytfpjeokncdlofaa
open Go.ChangeShapes Go.WideShapes Go.ChangeAt Go.RowKit Go.Joins
open Go.Proofs.Ytfpjeokncdlofaa.Fn (st st_size st_list st_extract)
set_option linter.unusedVariables false
set_option maxRecDepth 20000

/-- the lines of a text so far -/
def lnN (A : List UInt8) (j : Nat) : Nat := 1 + (A.take j).countP (fun c => c == 10)
theorem lnN_step (A : List UInt8) (j : Nat) (h : j < A.length) : lnN A (j + 1) = if A[j] = 10 then lnN A j + 1 else lnN A j := by
  unfold lnN
  rw [← List.take_append_getElem h, List.countP_append]
  by_cases e : A[j] = 10
  · rw [if_pos e, List.countP_singleton, if_pos (by simpa using e)]; omega
  · rw [if_neg e, List.countP_singleton, if_neg (by simpa using e)]
    rfl
theorem lnN_le (A : List UInt8) (j : Nat) : lnN A j ≤ 1 + A.length := by
  unfold lnN
  have h1 := List.countP_le_length (p := fun c : UInt8 => c == 10) (l := A.take j)
  rw [List.length_take] at h1
  omega
theorem lnN_end (A : List UInt8) : lnN A A.length = 1 + A.countP (fun c => c == 10) := by
  unfold lnN
  rw [List.take_length]
set_option maxHeartbeats 3000000 in
theorem lexJoins_walk (sa sb : ByteArray) (w : World) :
    Calls Try.prog 7 #[.string sa, .string sb] w fun e w' => e = .returned (.bool true) ∧ Below w.heap.size w w' := by
  obtain ⟨A, hA⟩ : ∃ L, sa = st L := ⟨sa.data.toList, by apply ByteArray.ext; simp [st]⟩
  obtain ⟨B, hB⟩ : ∃ L, sb = st L := ⟨sb.data.toList, by apply ByteArray.ext; simp [st]⟩
  obtain ⟨na, hna⟩ : ∃ n, A.length = n := ⟨_, rfl⟩
  obtain ⟨nb, hnb⟩ : ∃ n, B.length = n := ⟨_, rfl⟩
  have hsa : sa.size = na := by rw [hA, st_size, hna]
  have hsb : sb.size = nb := by rw [hB, st_size, hnb]
  have HL := Lib.hid (fun W => lexes_any W)
  by_cases h1 : 2000 < na
  · have h1I : (2000 : Int) < (na : Int) := by omega
    clear hA hB hna hnb
    go_enter Try.func7, Try.ntmps7
    go_wp2_with fail
    refine (HL.out _).mono ?_
    rintro e w1 ⟨rfl, hb1⟩
    go_wp2_with fail
    go_ret
    exact ⟨rfl, hb1.out⟩
  · have h1I : ¬ ((2000 : Int) < (na : Int)) := by omega
    have h1b : decide ((2000 : Int) < (na : Int)) = false := decide_eq_false h1I
    by_cases h2 : 2000 < nb
    · have h2I : (2000 : Int) < (nb : Int) := by omega
      clear hA hB hna hnb
      go_enter Try.func7, Try.ntmps7
      go_wp2_with fail
      refine (HL.out _).mono ?_
      rintro e w1 ⟨rfl, hb1⟩
      go_wp2_with fail
      go_ret
      exact ⟨rfl, hb1.out⟩
    · have h2I : ¬ ((2000 : Int) < (nb : Int)) := by omega
      have h2b : decide ((2000 : Int) < (nb : Int)) = false := decide_eq_false h2I
      have hj1 : ∀ w, (Op.stringOp .add sa { data := #[10] }).run Try.prog w = .ok (.string (st (A ++ [10]))) w := by rw [hA]; exact st_add A [10] (by simp; omega)
      have hj2 : ∀ w, (Op.stringOp .add (st (A ++ [10])) sb).run Try.prog w = .ok (.string (st (A ++ 10 :: B))) w := fun w => by
        rw [hB]
        exact (st_add (A ++ [10]) B (by simp; omega) w).trans (by rw [List.append_assoc]; rfl)
      have hlj : (A ++ 10 :: B).length ≤ 6000 := by simp; omega
      obtain ⟨RA, hRA⟩ := scanL_some A (by omega)
      cases RA with
      | error r =>
        have HA : Hid (∀ W, Calls Try.prog 10 #[.string sa] W fun e w' => e = .returned (.tuple #[.slice none 0 0, .agg #[.int .i64 (r.1 : Int), .int .i64 (r.2 : Int)], .int .i64 10]) ∧ Hid (Below W.heap.size W w')) := Lib.hid (fun W => by rw [hA]; exact lexScan_no A (by omega) r hRA W)
        have HB := Lib.hid (fun W => (hB ▸ lexScan_some B (by omega) W : Calls Try.prog 10 #[.string sb] W fun e w' => ∃ va vn vc a b c, e = .returned (.tuple #[.slice va vn vc, .agg #[.int .i64 a, .int .i64 b], .int .i64 c]) ∧ Hid (Below W.heap.size W w')))
        have HJ := Lib.hid (fun W => lexScan_some (A ++ 10 :: B) hlj W)
        generalize st (A ++ [10]) = sc at *
        generalize st (A ++ 10 :: B) = sd at *
        clear hA hB hna hnb hlj hRA
        go_enter Try.func7, Try.ntmps7
        go_wp2_with fail
        refine (HA.out _).mono ?_
        rintro e w1 ⟨rfl, hb1⟩
        go_wp2_with fail
        generalize h3 : World.alloc w1 _ = w2
        have hb2 : Below w1.heap.size w1 w2 := by rw [← h3]; exact (Below.refl _ _).alloc (Nat.le_refl _) _
        clear h3
        refine (HB.out _).mono ?_
        rintro e w3 ⟨va, vn, vc, a3, b3, c3, rfl, hb3⟩
        go_wp2_with fail
        generalize h3 : World.alloc w3 _ = w4
        have hb4 : Below w3.heap.size w3 w4 := by rw [← h3]; exact (Below.refl _ _).alloc (Nat.le_refl _) _
        clear h3
        refine (HJ.out _).mono ?_
        rintro e w5 ⟨vj, vm, vd, a5, b5, c5, rfl, hb5⟩
        go_wp2_with fail
        generalize h3 : World.alloc w5 _ = w6
        have hb6 : Below w5.heap.size w5 w6 := by rw [← h3]; exact (Below.refl _ _).alloc (Nat.le_refl _) _
        clear h3
        refine (HL.out _).mono ?_
        rintro e w7 ⟨rfl, hb7⟩
        go_wp2_with fail
        refine (HL.out _).mono ?_
        rintro e w8 ⟨rfl, hb8⟩
        have hb67 := hb6.trans (hb7.out.mono hb6.size)
        have hb57 := hb5.out.trans (hb67.mono hb5.out.size)
        have hb47 := hb4.trans (hb57.mono hb4.size)
        have hb37 := hb3.out.trans (hb47.mono hb3.out.size)
        have hb27 := hb2.trans (hb37.mono hb2.size)
        have hb17 := hb1.out.trans (hb27.mono hb1.out.size)
        have HB9 := Lib.hid (hb17.trans (hb8.out.mono hb17.size))
        clear hb67 hb57 hb47 hb37 hb27 hb17 hb8 hb7 hb6 hb5 hb4 hb3 hb2 hb1
        go_wp2_with fail
        go_ret
        exact ⟨rfl, HB9.out⟩
      | ok LA =>
        have HA : Hid (∀ W, Calls Try.prog 10 #[.string sa] W fun e w' => ∃ va vc, e = .returned (.tuple #[.slice va LA.length vc, .agg #[.int .i64 0, .int .i64 0], .int .i64 0]) ∧ Hid (w'.ownsRow W.heap.size 44 5 (.slice va LA.length vc) LA.length (cellsT LA)) ∧ Hid (Below W.heap.size W w')) := Lib.hid (fun W => by
          rw [hA]
          refine (lexScan_ok A (by omega) LA hRA W).mono ?_
          rintro e w' ⟨v, rfl, ho, hb⟩
          obtain ⟨va, vc, rfl⟩ := own_sl ho.out
          exact ⟨va, vc, rfl, ho, hb⟩)
        have hjn := scan_join A B (by omega) (by omega) LA hRA
        rw [← lnN_end, hna] at hjn
        have HIx : Hid (∀ (j : Nat) (h : j < A.length) (W : World), (Instr.index 9 (.string sa) (.int .i64 (j : Int))).run Try.prog W = .ok (.int .u8 ((A[j].toNat : Nat) : Int)) W) := Lib.hid fun j h W => by rw [hA]; exact idx_at A j h W
        have HNa := Lib.hid (fun _ : True => hna)
        obtain ⟨RB, hRB⟩ := scanL_some B (by omega)
        rw [hRB] at hjn
        cases RB with
        | error r =>
          have HB : Hid (∀ W, Calls Try.prog 10 #[.string sb] W fun e w' => e = .returned (.tuple #[.slice none 0 0, .agg #[.int .i64 (r.1 : Int), .int .i64 (r.2 : Int)], .int .i64 10]) ∧ Hid (Below W.heap.size W w')) := Lib.hid (fun W => by rw [hB]; exact lexScan_no B (by omega) r hRB W)
          have HJ : Hid (∀ W, Calls Try.prog 10 #[.string (st (A ++ 10 :: B))] W fun e w' => e = .returned (.tuple #[.slice none 0 0, .agg #[.int .i64 ((r.1 + lnN A na : Nat) : Int), .int .i64 (r.2 : Int)], .int .i64 10]) ∧ Hid (Below W.heap.size W w')) := Lib.hid (fun W => lexScan_no (A ++ 10 :: B) (by omega) (sh (lnN A na) r) hjn W)
          have hr : r.1 ≤ 200000 := scanL_err (by omega) hRB
          obtain ⟨N, hN⟩ : ∃ N, lnN A na = N := ⟨_, rfl⟩
          have hNl : N ≤ 3000 := by have := lnN_le A na; omega
          rw [hN] at HJ
          have HN := Lib.hid (fun _ : True => hN)
          generalize st (A ++ [10]) = sc at *
          generalize st (A ++ 10 :: B) = sd at *
          clear hA hB hnb hlj hRA hRB hjn hna hN
          go_enter Try.func7, Try.ntmps7
          go_wp2_with fail
          refine (HA.out _).mono ?_
          rintro e w1 ⟨va, vc, rfl, ho1, hb1⟩
          go_wp2_with fail
          generalize h3 : World.alloc w1 _ = w2
          have hb2 : Below w1.heap.size w1 w2 := by rw [← h3]; exact (Below.refl _ _).alloc (Nat.le_refl _) _
          clear h3
          refine (HB.out _).mono ?_
          rintro e w3 ⟨rfl, hb3⟩
          go_wp2_with fail
          generalize h3 : World.alloc w3 _ = w4
          have hb4 : Below w3.heap.size w3 w4 := by rw [← h3]; exact (Below.refl _ _).alloc (Nat.le_refl _) _
          have p4 := pos_block h3
          have hl4 : w3.heap.size < w4.heap.size := by rw [← h3]; simp
          clear h3
          refine (HJ.out _).mono ?_
          rintro e w5 ⟨rfl, hb5⟩
          go_wp2_with fail
          generalize h3 : World.alloc w5 _ = w6
          have hb6 : Below w5.heap.size w5 w6 := by rw [← h3]; exact (Below.refl _ _).alloc (Nat.le_refl _) _
          have p6 := pos_block h3
          have hl6 : w5.heap.size < w6.heap.size := by rw [← h3]; simp
          clear h3
          refine (HL.out _).mono ?_
          rintro e w7 ⟨rfl, hb7⟩
          have hb67 := hb6.trans (hb7.out.mono hb6.size)
          have hb57 := hb5.out.trans (hb67.mono hb5.out.size)
          have hb47 := hb4.trans (hb57.mono hb4.size)
          have hb37 := hb3.out.trans (hb47.mono hb3.out.size)
          have hb27 := hb2.trans (hb37.mono hb2.size)
          have HB7 := Lib.hid (hb1.out.trans (hb27.mono hb1.out.size))
          have k0 : w7.cell? ⟨w3.heap.size, 0, none⟩ = some (.int .i64 (r.1 : Int)) := (World.cell?_of_block (w := w4) (a := ⟨w3.heap.size, 0, none⟩) (hb57.block _ (Nat.lt_of_lt_of_le hl4 (Nat.le_refl _)))).trans p4.1
          have k1 : w7.cell? ⟨w3.heap.size, 1, none⟩ = some (.int .i64 (r.2 : Int)) := (World.cell?_of_block (w := w4) (a := ⟨w3.heap.size, 1, none⟩) (hb57.block _ hl4)).trans p4.2
          have k2 : w7.cell? ⟨w5.heap.size, 0, none⟩ = some (.int .i64 ((r.1 + N : Nat) : Int)) := (World.cell?_of_block (w := w6) (a := ⟨w5.heap.size, 0, none⟩) (hb7.out.block _ hl6)).trans p6.1
          have k3 : w7.cell? ⟨w5.heap.size, 1, none⟩ = some (.int .i64 (r.2 : Int)) := (World.cell?_of_block (w := w6) (a := ⟨w5.heap.size, 1, none⟩) (hb7.out.block _ hl6)).trans p6.2
          clear hb67 hb57 hb47 hb37 hb27 hb7 hb6 hb5 hb4 hb3 hb2 hb1 p4 p6 hl4 hl6 HA HB HJ HL
          go_wp2_with fail
          go_loopw [14, 15] (fun s14 s15 wq => ∃ j : Nat, j ≤ na ∧ s14 = .int .i64 ((lnN A j : Nat) : Int) ∧ s15 = .int .i64 (j : Int) ∧ wq = w7) (fun _ i _ => na - (intOf i).toNat)
          case atStart => exact ⟨0, by omega, rfl, rfl, rfl⟩
          case round =>
            obtain ⟨j, hj, rfl, rfl, hwq⟩ := hrel
            by_cases hjn : j < na
            · have hjI : (j : Int) < (na : Int) := by omega
              have hix := HIx.out j (by rw [HNa.out trivial]; exact hjn)
              have hst := lnN_step A j (by rw [HNa.out trivial]; exact hjn)
              have hle := lnN_le A j
              rw [HNa.out trivial] at hle
              obtain ⟨y, hy⟩ : ∃ y, A[j]'(by rw [HNa.out trivial]; exact hjn) = y := ⟨_, rfl⟩
              rw [hy] at hix hst
              obtain ⟨q, hq⟩ : ∃ q, lnN A j = q := ⟨_, rfl⟩
              rw [hq] at hst hle
              rw [hq]
              by_cases h10 : y = 10
              · rw [if_pos h10] at hst
                have h10b : ((y.toNat : Int) == 10) = true := by rw [h10]; rfl
                clear hy hq h10
                generalize y.toNat = z at *
                go_wp2_with fail
                go_roundw
                case rel => exact ⟨j + 1, by omega, by rw [hst]; go_num, by go_num, by first | exact hwq | trivial⟩
                case measure => simp only [intOf]; omega
              · rw [if_neg h10] at hst
                have h10b : ((y.toNat : Int) == 10) = false := by
                  rw [beq_eq_false_iff_ne]
                  intro e
                  exact h10 (UInt8.toNat_inj.1 (by show y.toNat = 10; omega))
                clear hy hq h10
                generalize y.toNat = z at *
                go_wp2_with fail
                go_roundw
                case rel => exact ⟨j + 1, by omega, by rw [hst], by go_num, by first | exact hwq | trivial⟩
                case measure => simp only [intOf]; omega
            · have hjn' : j = na := by omega
              subst hjn'
              rw [HN.out trivial]
              subst hwq
              have hw64 : wrap64 ((r.1 : Int) + (N : Int)) = ((r.1 + N : Nat) : Int) := by unfold wrap64; omega
              go_wp2_with fail
              go_ret
              exact ⟨rfl, HB7.out⟩
        | ok LB =>
          have HB : Hid (∀ W, Calls Try.prog 10 #[.string sb] W fun e w' => ∃ va vc, e = .returned (.tuple #[.slice va LB.length vc, .agg #[.int .i64 0, .int .i64 0], .int .i64 0]) ∧ Hid (w'.ownsRow W.heap.size 44 5 (.slice va LB.length vc) LB.length (cellsT LB)) ∧ Hid (Below W.heap.size W w')) := Lib.hid (fun W => by
            rw [hB]
            refine (lexScan_ok B (by omega) LB hRB W).mono ?_
            rintro e w' ⟨v, rfl, ho, hb⟩
            obtain ⟨va, vc, rfl⟩ := own_sl ho.out
            exact ⟨va, vc, rfl, ho, hb⟩)
          obtain ⟨N, hN⟩ : ∃ N, lnN A na = N := ⟨_, rfl⟩
          have hNl : N ≤ 3000 := by have := lnN_le A na; omega
          have HN := Lib.hid (fun _ : True => hN)
          rw [hN] at hjn
          obtain ⟨LJ, hLJ⟩ : ∃ L, LA ++ LB.map (shT N) = L := ⟨_, rfl⟩
          have hjn' : scanL (A ++ 10 :: B) = some (.ok LJ) := by rw [hjn, ← hLJ]; rfl
          have HLJ := Lib.hid (fun _ : True => hLJ)
          have HJ : Hid (∀ W, Calls Try.prog 10 #[.string (st (A ++ 10 :: B))] W fun e w' => ∃ va vc, e = .returned (.tuple #[.slice va LJ.length vc, .agg #[.int .i64 0, .int .i64 0], .int .i64 0]) ∧ Hid (w'.ownsRow W.heap.size 44 5 (.slice va LJ.length vc) LJ.length (cellsT LJ)) ∧ Hid (Below W.heap.size W w')) := Lib.hid (fun W => by
            refine (lexScan_ok _ (by omega) LJ hjn' W).mono ?_
            rintro e w' ⟨v, rfl, ho, hb⟩
            obtain ⟨va, vc, rfl⟩ := own_sl ho.out
            exact ⟨va, vc, rfl, ho, hb⟩)
          have HCt : Hid (LA.length ≤ 10000 ∧ LB.length ≤ 10000 ∧ LJ.length ≤ 10000) := Lib.hid (by
            have q1 := scanL_count hRA
            have q2 := scanL_count hRB
            have q3 := scanL_count hjn'
            omega)
          have HPl := Lib.hid (scanL_places (by omega) hRB)
          clear hjn'
          generalize st (A ++ [10]) = sc at *
          generalize st (A ++ 10 :: B) = sd at *
          clear hA hB hnb hlj hRA hRB hjn hna hN hLJ
          go_enter Try.func7, Try.ntmps7
          go_wp2_with fail
          refine (HA.out _).mono ?_
          rintro e w1 ⟨va, vc, rfl, ho1, hb1⟩
          go_wp2_with fail
          generalize h3 : World.alloc w1 _ = w2
          have hb2 : Below w1.heap.size w1 w2 := by rw [← h3]; exact (Below.refl _ _).alloc (Nat.le_refl _) _
          clear h3
          refine (HB.out _).mono ?_
          rintro e w3 ⟨vb, vd, rfl, ho3, hb3⟩
          go_wp2_with fail
          generalize h3 : World.alloc w3 _ = w4
          have hb4 : Below w3.heap.size w3 w4 := by rw [← h3]; exact (Below.refl _ _).alloc (Nat.le_refl _) _
          clear h3
          refine (HJ.out _).mono ?_
          rintro e w5 ⟨vj, ve, rfl, ho5, hb5⟩
          go_wp2_with fail
          generalize h3 : World.alloc w5 _ = w6
          have hb6 : Below w5.heap.size w5 w6 := by rw [← h3]; exact (Below.refl _ _).alloc (Nat.le_refl _) _
          clear h3
          refine (HL.out _).mono ?_
          rintro e w7 ⟨rfl, hb7⟩
          have hb67 := hb6.trans (hb7.out.mono hb6.size)
          have hb57 := hb5.out.trans (hb67.mono hb5.out.size)
          have hb47 := hb4.trans (hb57.mono hb4.size)
          have hb37 := hb3.out.trans (hb47.mono hb3.out.size)
          have hb27 := hb2.trans (hb37.mono hb2.size)
          have HB7 := Lib.hid (hb1.out.trans (hb27.mono hb1.out.size))
          have HF : Hid (∀ (L : List Tok) (v : Value) (b : Nat) (w0 : World), Below w0.heap.size w0 w7 → L.length ≤ 10000 → w0.ownsRow b 44 5 v L.length (cellsT L) → ∀ W, Below w7.heap.size w7 W → Calls Try.prog 13 #[v] W fun e w' => ∃ ua uc, e = .returned (.slice ua L.length uc) ∧ Hid (w'.ownsRow W.heap.size 38 5 (.slice ua L.length uc) L.length (cellsT L)) ∧ Hid (Below W.heap.size W w')) := Lib.hid fun L v b w0 hb hl ho W hW => by
            refine (from_any L (by omega) v b W (Lib.hid (own_below (own_below ho hb) hW))).mono ?_
            rintro e w' ⟨u, rfl, hu, hb'⟩
            obtain ⟨ua, uc, rfl⟩ := own_sl hu.out
            exact ⟨ua, uc, rfl, hu, hb'⟩
          have HFa := Lib.hid (HF.out LA _ _ w1 hb27 HCt.out.1 ho1.out)
          have HFb := Lib.hid (HF.out LB _ _ w3 hb47 HCt.out.2.1 ho3.out)
          have HFj := Lib.hid (HF.out LJ _ _ w5 hb67 HCt.out.2.2 ho5.out)
          clear hb67 hb57 hb47 hb37 hb27 hb7 hb6 hb5 hb4 hb3 hb2 hb1 ho1 ho3 ho5 HF HA HB HJ HL
          go_wp2_with fail
          go_loopw [14, 15] (fun s14 s15 wq => ∃ j : Nat, j ≤ na ∧ s14 = .int .i64 ((lnN A j : Nat) : Int) ∧ s15 = .int .i64 (j : Int) ∧ wq = w7) (fun _ i _ => na - (intOf i).toNat)
          case atStart => exact ⟨0, by omega, rfl, rfl, rfl⟩
          case round =>
            obtain ⟨j, hj, rfl, rfl, hwq⟩ := hrel
            by_cases hjn : j < na
            · have hjI : (j : Int) < (na : Int) := by omega
              have hix := HIx.out j (by rw [HNa.out trivial]; exact hjn)
              have hst := lnN_step A j (by rw [HNa.out trivial]; exact hjn)
              have hle := lnN_le A j
              rw [HNa.out trivial] at hle
              obtain ⟨y, hy⟩ : ∃ y, A[j]'(by rw [HNa.out trivial]; exact hjn) = y := ⟨_, rfl⟩
              rw [hy] at hix hst
              obtain ⟨q, hq⟩ : ∃ q, lnN A j = q := ⟨_, rfl⟩
              rw [hq] at hst hle
              rw [hq]
              by_cases h10 : y = 10
              · rw [if_pos h10] at hst
                have h10b : ((y.toNat : Int) == 10) = true := by rw [h10]; rfl
                clear hy hq h10
                generalize y.toNat = z at *
                go_wp2_with fail
                go_roundw
                case rel => exact ⟨j + 1, by omega, by rw [hst]; go_num, by go_num, by first | exact hwq | trivial⟩
                case measure => simp only [intOf]; omega
              · rw [if_neg h10] at hst
                have h10b : ((y.toNat : Int) == 10) = false := by
                  rw [beq_eq_false_iff_ne]
                  intro e
                  exact h10 (UInt8.toNat_inj.1 (by show y.toNat = 10; omega))
                clear hy hq h10
                generalize y.toNat = z at *
                go_wp2_with fail
                go_roundw
                case rel => exact ⟨j + 1, by omega, by rw [hst], by go_num, by first | exact hwq | trivial⟩
                case measure => simp only [intOf]; omega
            · have hjn' : j = na := by omega
              subst hjn'
              rw [HN.out trivial]
              subst hwq
              rename World => w7
              go_wp2_with fail
              refine (HFa.out w7 (Below.refl _ _)).mono ?_
              rintro e w8 ⟨ua, uc, rfl, hu8, hb8⟩
              obtain ⟨v9, w9, hrun9, ho9, hb9⟩ := app_nil hu8.out (by have := HCt.out.1; omega) 29
              have HO9 := Lib.hid ho9
              have HB9 : Hid (Below w7.heap.size w7 w9 ∧ w8.heap.size ≤ w9.heap.size) := Lib.hid ⟨hb8.out.trans (hb9.mono hb8.out.size), hb9.size⟩
              have HB78 : Hid (w7.heap.size ≤ w8.heap.size) := Lib.hid hb8.out.size
              clear ho9 hb9 hu8 hb8 HFa
              go_wp2_with (at_builtin; refine Lib.wpList_append_run _ rfl _ _ _ _ rfl _ _ rfl rfl _ _ hrun9 ?_)
              clear hrun9
              go_loopw [16, 17] (fun s16 s17 wq => ∃ (i : Nat) (wa : Option Addr) (qn wc : Nat), i ≤ LB.length ∧ s16 = .slice wa qn wc ∧ s17 = .int .i64 (i : Int) ∧ Hid (qn = (LA ++ (LB.take i).map (shT N)).length) ∧ Hid (wq.ownsRow w8.heap.size 38 5 (.slice wa qn wc) qn (cellsT (LA ++ (LB.take i).map (shT N)))) ∧ Hid (Below w7.heap.size w7 wq ∧ w8.heap.size ≤ wq.heap.size)) (fun _ x _ => LB.length - (intOf x).toNat)
              case atStart =>
                obtain ⟨xa, xc, rfl⟩ := own_sl HO9.out
                exact ⟨0, xa, LA.length, xc, by omega, rfl, rfl, Lib.hid (by rw [List.take_zero, List.map_nil, List.append_nil]), Lib.hid (by rw [List.take_zero, List.map_nil, List.append_nil]; exact HO9.out), HB9⟩
              case round =>
                obtain ⟨i, wa, qn, wc, hi, rfl, rfl, HQ, HO, HB⟩ := hrel
                obtain ⟨wo, rfl⟩ : ∃ wo : World, wo = wr := ⟨_, rfl⟩
                by_cases hin : i < LB.length
                · have hLBn : LB.length ≤ 10000 := HCt.out.2.1
                  have hinI : (i : Int) < (LB.length : Int) := by omega
                  have hi0 : (0 : Int) ≤ (i : Int) := by omega
                  go_wp2_with fail
                  refine (HFb.out wo HB.out.1).mono ?_
                  rintro e w10 ⟨ub, ud, rfl, hu10, hb10⟩
                  obtain ⟨g, cap, hv, _, hg, hcap, hcell⟩ := tok_atT hu10.out (by omega)
                  cases hv
                  obtain ⟨k0, k1, k2, k3, k4⟩ := hcell w10 rfl i hin
                  have HPi := Lib.hid (HPl.out (LB[i]) (List.getElem_mem hin))
                  have HTk : Hid (LA ++ (LB.take (i + 1)).map (shT N) = (LA ++ (LB.take i).map (shT N)) ++ [shT N LB[i]]) := Lib.hid (by
                    rw [← List.take_append_getElem hin, List.map_append, List.append_assoc]; rfl)
                  obtain ⟨tk, htk⟩ : ∃ x, LB[i] = x := ⟨_, rfl⟩
                  rw [htk] at k0 k1 k2 k3 k4 HPi HTk
                  obtain ⟨⟨pa, pb⟩, kk, nn, bb⟩ := tk
                  obtain ⟨tb, htb⟩ : ∃ x, st bb = x := ⟨_, rfl⟩
                  change _ = some (Value.int .i64 kk) at k0
                  change _ = some (Value.int .i64 (pa : Int)) at k1
                  change _ = some (Value.int .i64 (pb : Int)) at k2
                  change _ = some (Value.int .i64 nn) at k3
                  change _ = some (Value.string (st bb)) at k4
                  rw [htb] at k4
                  have hpa : pa ≤ 200000 := HPi.out
                  have hw64 : wrap64 ((pa : Int) + (N : Int)) = ((pa + N : Nat) : Int) := by unfold wrap64; omega
                  obtain ⟨pn, hpn⟩ : ∃ x, pa + N = x := ⟨_, rfl⟩
                  rw [hpn] at hw64
                  have hcapI : (LB.length : Int) ≤ (ud : Int) := by omega
                  have HB10 : Hid (Below w7.heap.size w7 w10 ∧ w8.heap.size ≤ w10.heap.size ∧ Below wo.heap.size wo w10) := Lib.hid ⟨HB.out.1.trans (hb10.out.mono HB.out.1.size), Nat.le_trans HB.out.2 hb10.out.size, hb10.out⟩
                  clear hcell hu10 hb10 htk
                  have hall : Below w10.heap.size w10 (w10.alloc (.cells #[.int .i64 kk, .int .i64 (pn : Int), .int .i64 (pb : Int), .int .i64 nn, .string tb] 38)) := (Below.refl _ _).alloc (Nat.le_refl _) _
                  have hsz11 : (w10.alloc (.cells #[.int .i64 kk, .int .i64 (pn : Int), .int .i64 (pb : Int), .int .i64 nn, .string tb] 38)).heap.size = w10.heap.size + 1 := by simp
                  obtain ⟨v', w12, hrun, hov, hbv⟩ := app_tokR (L := LA ++ (LB.take i).map (shT N)) (v := .slice wa qn wc) (own_below (own_below (HQ.out ▸ HO.out) HB10.out.2.2) hall) (Nat.le_trans HB10.out.2.1 hall.size) ((pn, pb), kk, nn, bb) tb htb (by
                    rw [List.length_append, List.length_map, List.length_take]
                    have h1 := HCt.out.1
                    have h2 := HCt.out.2.1
                    omega) 29
                  rw [hsz11] at hrun
                  have HOv : Hid (w12.ownsRow w8.heap.size 38 5 v' (LA ++ (LB.take (i + 1)).map (shT N)).length (cellsT (LA ++ (LB.take (i + 1)).map (shT N)))) := Lib.hid (by
                    rw [HTk.out, show shT N ((pa, pb), kk, nn, bb) = ((pn, pb), kk, nn, bb) by unfold shT sh; rw [hpn]]
                    exact hov)
                  have HBv : Hid (Below w7.heap.size w7 w12 ∧ w8.heap.size ≤ w12.heap.size) := Lib.hid (by
                    have q1 := HB10.out.1.trans (hall.mono HB10.out.1.size)
                    have q2 : Below w7.heap.size (w10.alloc (.cells #[.int .i64 kk, .int .i64 (pn : Int), .int .i64 (pb : Int), .int .i64 nn, .string tb] 38)) w12 := hbv.mono HB78.out
                    exact ⟨q1.trans q2, Nat.le_trans HB10.out.2.1 (Nat.le_trans hall.size hbv.size)⟩)
                  clear hall hsz11 hov hbv HB10 HO HB HPi HTk hpn htb hpa
                  go_wp2_with (at_builtin; refine Lib.wpList_append_run _ rfl _ _ _ _ rfl _ _ rfl rfl _ _ hrun ?_)
                  go_roundw
                  case rel =>
                    obtain ⟨ya, yc, rfl⟩ := own_sl HOv.out
                    exact ⟨i + 1, ya, _, yc, by omega, rfl, by go_num, Lib.hid rfl, HOv, HBv⟩
                  case measure => simp only [intOf]; omega
                · have hin' : i = LB.length := by omega
                  subst hin'
                  have HOf : Hid (wo.ownsRow w8.heap.size 38 5 (.slice wa qn wc) LJ.length (cellsT LJ)) := Lib.hid (by
                    have h := HO.out
                    have hq := HQ.out
                    rw [List.take_length, HLJ.out trivial] at hq h
                    rw [← hq]
                    exact h)
                  clear HO HQ
                  go_wp2_with fail
                  refine (HFj.out wo HB.out.1).mono ?_
                  rintro e w10 ⟨ub, ud, rfl, hu10, hb10⟩
                  have HSm := Lib.hid (same_yes LJ (by have := HCt.out.2.2; omega) _ _ _ _ w10 hu10 (Lib.hid (own_below HOf.out hb10.out)))
                  have HB11 := Lib.hid (HB7.out.trans ((HB.out.1.trans (hb10.out.mono HB.out.1.size)).mono HB7.out.size))
                  clear hu10 hb10
                  go_wp2_with fail
                  refine HSm.out.mono ?_
                  rintro e w11 ⟨rfl, n11, rfl⟩
                  go_wp2_with fail
                  go_ret
                  exact ⟨rfl, below_drewN HB11.out _⟩
end Go.Proofs.Ytfpjeokncdlofaa
