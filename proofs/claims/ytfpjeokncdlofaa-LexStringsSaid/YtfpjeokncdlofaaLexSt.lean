/- LexStrings, at whatever bytes and count of lines. -/
import Derived.Test.YtfpjeokncdlofaaLexSp
namespace Go.Proofs.Ytfpjeokncdlofaa
open Go.ChangeShapes Go.WideShapes Go.ChangeAt Go.RowKit Go.Joins
open Go.Proofs.Ytfpjeokncdlofaa.Fn (st st_size st_list st_extract)
set_option linter.unusedVariables false
set_option maxRecDepth 20000

theorem arg_text {a0 : Option Addr} {len0 cap0 : Nat} {z0 : List Int} {w : World}
    (w0 : (a0 = none ∧ len0 = 0 ∧ cap0 = 0 ∧ z0 = []) ∨ ∃ x, a0 = some x ∧ len0 ≤ cap0 ∧ cap0 ≤ maxLen ∧ z0.length = cap0 ∧ (∀ i, i < z0.length → w.cell? (x.add i) = some (.int .u8 (z0.getD i 0))) ∧ ∀ n ∈ z0, (Lit.int .u8 n).wf = true) :
    ∃ L : List UInt8, L.length = len0 ∧ ∀ W, Below w.heap.size w W → (convert 46 9 (.slice a0 len0 cap0)).run Try.prog W = .ok (.string (st L)) W := by
  by_cases h0 : len0 = 0
  · subst h0
    refine ⟨[], rfl, fun W _ => ?_⟩
    rcases w0 with ⟨rfl, _, rfl, _⟩ | ⟨x, rfl, _⟩
    · go_simp; rfl
    · go_simp; rfl
  · rcases w0 with ⟨_, h, _⟩ | ⟨x, rfl, h1, h2, h3, h4, h5⟩
    · exact absurd h h0
    · have hb : ∀ z ∈ z0, 0 ≤ z ∧ z ≤ 255 := fun z hz => bounds_u8 (h5 z hz)
      obtain ⟨g, o, s⟩ := x
      have hx : s = none := by
        cases s with
        | none => rfl
        | some s =>
          have h := h4 0 (by omega)
          simp [World.cell?, Addr.add] at h
          split at h <;> cases h
      subst hx
      have hadd : ∀ i, (⟨g, o, none⟩ : Addr).add i = ⟨g, o + i, none⟩ := fun i => by unfold Addr.add; split <;> simp_all
      refine ⟨(z0.take len0).map fun z => UInt8.ofNat z.toNat, by simp; omega, fun W hW => ?_⟩
      have h7 := run_convert_bytes_arg (P := Try.prog) W 46 5 Try.underlying46 Try.underlying5 g o len0 cap0 (((z0.take len0).map fun z => UInt8.ofNat z.toNat).map fun b => ((b.toNat : Nat) : Int)) (by simp; omega) (fun i hi => by
        have hi3 : i < z0.length := by omega
        have h6 := h4 i hi3
        rw [hadd] at h6
        rw [hW.cell (World.block_lt_of_cell? w _ h6), h6]
        have hz := hb z0[i] (List.getElem_mem hi3)
        congr 2
        simp [List.getD, hi3, hi]
        omega) 9 Try.underlying9
      rw [st_nums] at h7
      exact h7
set_option maxHeartbeats 8000000 in
theorem lexStrings_walk (a0 : Option Addr) (len0 cap0 : Nat) (z0 : List Int) (b : Int) (w : World)
    (w0 : (a0 = none ∧ len0 = 0 ∧ cap0 = 0 ∧ z0 = []) ∨ ∃ x, a0 = some x ∧ len0 ≤ cap0 ∧ cap0 ≤ maxLen ∧ z0.length = cap0 ∧ (∀ i, i < z0.length → w.cell? (x.add i) = some (.int .u8 (z0.getD i 0))) ∧ ∀ n ∈ z0, (Lit.int .u8 n).wf = true) :
    Calls Try.prog 6 #[.slice a0 len0 cap0, .int .i64 b] w fun e w' => e = .returned (.bool true) ∧ Below w.heap.size w w' := by
  obtain ⟨L, hL, hcv⟩ := arg_text w0
  have HCv := Lib.hid hcv
  clear w0 hcv
  have HL := Lib.hid (fun W => lexes_any W)
  obtain ⟨m, hm, hm20⟩ : ∃ m : Nat, wrap64 ((IntKind.u64.wrap b).tmod 20) = (m : Int) ∧ m < 20 := by
    have h := IntKind.wrap_u64 b
    have h2 : 0 ≤ IntKind.u64.wrap b := by rw [h]; omega
    have e : (IntKind.u64.wrap b).tmod 20 = IntKind.u64.wrap b % 20 := Int.tmod_eq_emod_of_nonneg h2
    refine ⟨(IntKind.u64.wrap b % 20).toNat, ?_, by omega⟩
    rw [e]; unfold wrap64; omega
  by_cases hbig : 4200 < len0
  · have hbI : (4200 : Int) < (len0 : Int) := by omega
    go_enter Try.func6, Try.ntmps6
    go_wp2_with fail
    refine (HL.out w).mono ?_
    rintro e w1 ⟨rfl, hb1⟩
    go_wp2_with fail
    go_ret
    exact ⟨rfl, hb1.out⟩
  · have hbI : ¬ ((4200 : Int) < (len0 : Int)) := by omega
    go_enter Try.func6, Try.ntmps6
    go_wp2_with fail
    go_loopw [5, 6] (fun u v wr => ∃ j : Nat, j ≤ m ∧ u = .string (st (List.replicate j 10)) ∧ v = .int .i64 (j : Int) ∧ wr = w) (fun _ v _ => m - (intOf v).toNat)
    case atStart => exact ⟨0, by omega, rfl, rfl, rfl⟩
    case round =>
      obtain ⟨j, hj, rfl, rfl, rfl⟩ := hrel
      by_cases hjm : j < m
      · have hjI : (j : Int) < (m : Int) := by omega
        have hadd : ∀ w, (Op.stringOp .add (st (List.replicate j 10)) { data := #[10] }).run Try.prog w = .ok (.string (st (List.replicate j 10 ++ [10]))) w := st_add (List.replicate j 10) [10] (by simp; omega)
        go_wp2_with fail
        go_roundw
        case rel => exact ⟨j + 1, by omega, by rw [← List.replicate_succ'], by go_num, by first | rfl | trivial⟩
        case measure => simp only [intOf]; omega
      · obtain rfl : j = m := by omega
        have HSp := Lib.hid (fun W => spell_text L (by omega) 0 0 0 W)
        have HS1 := Lib.hid (scan_string j L)
        have HS2 := Lib.hid (scan_stringno j L)
        have hcw := HCv.out wr (Below.refl _ _)
        have hadd := st_add (List.replicate j 10) (34 :: (spL L ++ [34])) (by rw [List.length_cons, List.length_append, spL_len]; simp; omega)
        have hadd2 : ∀ w, (Op.stringOp .add (st (List.replicate j 10)) { data := #[32] }).run Try.prog w = .ok (.string (st (List.replicate j 10 ++ [32]))) w := st_add (List.replicate j 10) [32] (by simp; omega)
        have hadd3 := st_add (List.replicate j 10 ++ [32]) (34 :: spL L) (by rw [List.length_cons, spL_len]; simp; omega)
        have HN2 := Lib.hid (fun W => lexScan_no (List.replicate j 10 ++ [32] ++ (34 :: spL L)) (by rw [List.length_append, List.length_cons, spL_len]; simp; omega) _ HS2.out W)
        have hn1 : (st (34 :: (spL L ++ [34]))).size = 4 * len0 + 2 := by rw [st_size, List.length_cons, List.length_append, spL_len, hL]; simp
        obtain ⟨K, hK⟩ : ∃ K, 4 * len0 + 1 = K := ⟨_, rfl⟩
        have hex : (st (34 :: (spL L ++ [34]))).extract 0 K = st (34 :: spL L) := by
          rw [st_extract, show 34 :: (spL L ++ [34]) = (34 :: spL L) ++ [34] from rfl, List.take_left' (by rw [List.length_cons, spL_len, hL]; exact hK)]
          rfl
        have hle : (K : Int) ≤ ((st (34 :: (spL L ++ [34]))).size : Int) := by rw [hn1]; omega
        have hwr : wrap64 (((st (34 :: (spL L ++ [34]))).size : Int) - 1) = (K : Int) := by rw [hn1]; unfold wrap64; omega
        have hwj : wrap64 (1 + (j : Int)) = ((1 + j : Nat) : Int) := by unfold wrap64; omega
        by_cases hmany : 4096 < L.length
        · have hmI : (4096 : Int) < (len0 : Int) := by omega
          have HN1 := Lib.hid (fun W => lexScan_no (List.replicate j 10 ++ (34 :: (spL L ++ [34]))) (by rw [List.length_append, List.length_cons, List.length_append, spL_len]; simp; omega) (1 + j, 1) (by rw [HS1.out, if_pos hmany]) W)
          generalize st (List.replicate j 10) = sa at *
          generalize st (List.replicate j 10 ++ [32]) = sb at *
          generalize st (List.replicate j 10 ++ [32] ++ (34 :: spL L)) = sc at *
          generalize st (List.replicate j 10 ++ (34 :: (spL L ++ [34]))) = sd at *
          generalize st (34 :: (spL L ++ [34])) = se at *
          generalize st (34 :: spL L) = sf at *
          generalize st L = sL at *
          clear HS1 HS2 hn1 hmany hK
          go_wp2_with fail
          refine (HSp.out wr).mono ?_
          rintro e w1 ⟨rfl, hb1⟩
          go_wp2_with fail
          refine (HN1.out w1).mono ?_
          rintro e w2 ⟨rfl, hb2⟩
          go_wp2_with fail
          generalize h3 : World.alloc w2 _ = w3
          have hb3 : Below w2.heap.size w2 w3 := by rw [← h3]; exact (Below.refl _ _).alloc (Nat.le_refl _) _
          have p3 := pos_block h3
          have hlt3 : w2.heap.size < w3.heap.size := by rw [← h3]; simp
          clear h3
          refine (HN2.out w3).mono ?_
          rintro e w4 ⟨rfl, hb4⟩
          go_wp2_with fail
          generalize h5 : World.alloc w4 _ = w5
          have hb5 : Below w4.heap.size w4 w5 := by rw [← h5]; exact (Below.refl _ _).alloc (Nat.le_refl _) _
          have p5 := pos_block h5
          have hlt5 : w4.heap.size < w5.heap.size := by rw [← h5]; simp
          clear h5
          refine (HL.out w5).mono ?_
          rintro e w6 ⟨rfl, hb6⟩
          have hb46 : Below w4.heap.size w4 w6 := hb5.trans (hb6.out.mono hb5.size)
          have hb36 : Below w3.heap.size w3 w6 := hb4.out.trans (hb46.mono hb4.out.size)
          have hb26 : Below w2.heap.size w2 w6 := hb3.trans (hb36.mono hb3.size)
          have HBW : Hid (Below wr.heap.size wr w6) := Lib.hid (hb1.out.trans ((hb2.out.trans (hb26.mono hb2.out.size)).mono hb1.out.size))
          have k0 : w6.cell? ⟨w2.heap.size, 0, none⟩ = some (.int .i64 ((1 + j : Nat) : Int)) := (World.cell?_of_block (w := w3) (a := ⟨w2.heap.size, 0, none⟩) (hb36.block _ hlt3)).trans p3.1
          have k1 : w6.cell? ⟨w2.heap.size, 1, none⟩ = some (.int .i64 1) := (World.cell?_of_block (w := w3) (a := ⟨w2.heap.size, 1, none⟩) (hb36.block _ hlt3)).trans p3.2
          have k2 : w6.cell? ⟨w4.heap.size, 0, none⟩ = some (.int .i64 ((1 + j : Nat) : Int)) := (World.cell?_of_block (w := w5) (a := ⟨w4.heap.size, 0, none⟩) (hb6.out.block _ hlt5)).trans p5.1
          have k3 : w6.cell? ⟨w4.heap.size, 1, none⟩ = some (.int .i64 2) := (World.cell?_of_block (w := w5) (a := ⟨w4.heap.size, 1, none⟩) (hb6.out.block _ hlt5)).trans p5.2
          clear hb46 hb36 hb26 hb6 hb5 hb4 hb3 hb2 hb1 p3 p5 hlt3 hlt5 HSp HN2 HL
          go_wp2_with fail
          go_ret
          exact ⟨rfl, HBW.out⟩
        · have hmI : ¬ ((4096 : Int) < (len0 : Int)) := by omega
          have HN1 := Lib.hid (fun W => lexScan_ok (List.replicate j 10 ++ (34 :: (spL L ++ [34]))) (by rw [List.length_append, List.length_cons, List.length_append, spL_len]; simp; omega) [((1 + j, 1), 4, 0, L)] (by rw [HS1.out, if_neg hmany]) W)
          have HsL : Hid (∀ s, st L = s → s = st L) := Lib.hid fun s h => h.symm
          generalize st (List.replicate j 10) = sa at *
          generalize st (List.replicate j 10 ++ [32]) = sb at *
          generalize st (List.replicate j 10 ++ [32] ++ (34 :: spL L)) = sc at *
          generalize st (List.replicate j 10 ++ (34 :: (spL L ++ [34]))) = sd at *
          generalize st (34 :: (spL L ++ [34])) = se at *
          generalize st (34 :: spL L) = sf at *
          obtain ⟨sL, hsL⟩ : ∃ s, st L = s := ⟨_, rfl⟩
          have HTL := Lib.hid (fun _ : True => hsL)
          rw [hsL] at HCv hcw HSp
          clear hsL HsL
          clear HS1 HS2 hn1 hmany hK
          go_wp2_with fail
          refine (HSp.out wr).mono ?_
          rintro e w1 ⟨rfl, hb1⟩
          go_wp2_with fail
          refine (HN1.out w1).mono ?_
          rintro e w2 ⟨v, rfl, ho2, hb2⟩
          obtain ⟨g, cap, rfl, hg0, hg1, hcap, hcell⟩ := row_cell ho2.out (Nat.succ_pos _)
          have HCell := Lib.hid hcell
          have hcapI : (1 : Int) ≤ (cap : Int) := by simp at hcap; omega
          clear hcell ho2
          go_wp2_with fail
          generalize h3 : World.alloc w2 _ = w3
          have hb3 : Below w2.heap.size w2 w3 := by rw [← h3]; exact (Below.refl _ _).alloc (Nat.le_refl _) _
          have p3 := pos_block h3
          have hlt3 : w2.heap.size < w3.heap.size := by rw [← h3]; simp
          clear h3
          refine (HN2.out w3).mono ?_
          rintro e w4 ⟨rfl, hb4⟩
          go_wp2_with fail
          generalize h5 : World.alloc w4 _ = w5
          have hb5 : Below w4.heap.size w4 w5 := by rw [← h5]; exact (Below.refl _ _).alloc (Nat.le_refl _) _
          have p5 := pos_block h5
          have hlt5 : w4.heap.size < w5.heap.size := by rw [← h5]; simp
          clear h5
          refine (HL.out w5).mono ?_
          rintro e w6 ⟨rfl, hb6⟩
          have hb46 : Below w4.heap.size w4 w6 := hb5.trans (hb6.out.mono hb5.size)
          have hb36 : Below w3.heap.size w3 w6 := hb4.out.trans (hb46.mono hb4.out.size)
          have hb26 : Below w2.heap.size w2 w6 := hb3.trans (hb36.mono hb3.size)
          have HBW : Hid (Below wr.heap.size wr w6) := Lib.hid (hb1.out.trans ((hb2.out.trans (hb26.mono hb2.out.size)).mono hb1.out.size))
          have k0 : w6.cell? ⟨w2.heap.size, 0, none⟩ = some (.int .i64 0) := (World.cell?_of_block (w := w3) (a := ⟨w2.heap.size, 0, none⟩) (hb36.block _ hlt3)).trans p3.1
          have k1 : w6.cell? ⟨w2.heap.size, 1, none⟩ = some (.int .i64 0) := (World.cell?_of_block (w := w3) (a := ⟨w2.heap.size, 1, none⟩) (hb36.block _ hlt3)).trans p3.2
          have k2 : w6.cell? ⟨w4.heap.size, 0, none⟩ = some (.int .i64 ((1 + j : Nat) : Int)) := (World.cell?_of_block (w := w5) (a := ⟨w4.heap.size, 0, none⟩) (hb6.out.block _ hlt5)).trans p5.1
          have k3 : w6.cell? ⟨w4.heap.size, 1, none⟩ = some (.int .i64 2) := (World.cell?_of_block (w := w5) (a := ⟨w4.heap.size, 1, none⟩) (hb6.out.block _ hlt5)).trans p5.2
          have hgw : w6.heap[g]? = w2.heap[g]? := hb26.block g hg1
          have q0 : w6.cell? ⟨g, 0, none⟩ = some (.int .i64 4) := HCell.out 0 _ rfl _ hgw
          have q4 : w6.cell? ⟨g, 4, none⟩ = some (.string sL) := HCell.out 4 _ (by rw [← HTL.out trivial]; rfl) _ hgw
          have hc6 : ∀ k, (convert 46 9 (.slice a0 len0 cap0)).run Try.prog (w6.drewN k) = .ok (.string sL) (w6.drewN k) := fun k => HCv.out _ (below_drewN HBW.out k)
          have hc7 := hc6 0
          clear hgw hb46 hb36 hb26 hb6 hb5 hb4 hb3 hb2 hb1 p3 p5 hlt3 hlt5 HSp HN2 HL
          go_wp2_with fail
          go_quiet (fail)
          go_wp2_with fail
          go_ret
          exact ⟨rfl, below_drewN HBW.out _⟩
end Go.Proofs.Ytfpjeokncdlofaa
