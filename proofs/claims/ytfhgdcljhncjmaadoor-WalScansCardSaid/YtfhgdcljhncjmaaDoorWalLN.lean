/- WalScans. -/
import Derived.Test.YtfhgdcljhncjmaaDoorWalSD
import Derived.Test.YtfhgdcljhncjmaaDoorWalLC
namespace Go.Proofs.YtfhgdcljhncjmaaDoor
open Go.ChangeShapes Go.WideShapes Go.ChangeAt Go.RowKit
set_option linter.unusedVariables false
set_option maxRecDepth 20000

theorem mod_big (cut : Int) (m : Int) (hm0 : 0 < m) (hm : m ≤ 4611686018427387904) : ∃ k : Int, wrap64 ((IntKind.u64.wrap cut).tmod m) = k ∧ 0 ≤ k ∧ k < m := by
  have h0 : 0 ≤ IntKind.u64.wrap cut := by rw [IntKind.wrap_u64]; omega
  refine ⟨(IntKind.u64.wrap cut).tmod m, ?_, ?_⟩
  · rw [Int.tmod_eq_emod_of_nonneg h0]
    unfold wrap64
    generalize IntKind.u64.wrap cut = x at *
    have h1 := Int.emod_nonneg x (show m ≠ 0 by omega)
    have h2 := Int.emod_lt_of_pos x hm0
    generalize x % m = y at *
    omega
  · rw [Int.tmod_eq_emod_of_nonneg h0]
    generalize IntKind.u64.wrap cut = x at *
    have h1 := Int.emod_nonneg x (show m ≠ 0 by omega)
    have h2 := Int.emod_lt_of_pos x hm0
    exact ⟨h1, h2⟩
theorem back_only {w V : World} {g b c : Nat} {s : ByteArray} (h : ∀ j, j < s.size → w.cell? ⟨b, j, none⟩ = some (.int .u8 (s.data.toList.getD j 0).toNat)) (ho : Fk.Only (· = g) w V) (hbl : b < w.heap.size) (hne : b ≠ g) : (convert 34 9 (.slice (some ⟨b, 0, none⟩) s.size c)).run Tryd.prog V = .ok (.string s) V := by
  have hbk := ho.block b hbl hne
  have := run_convert_bytes_arg (P := Tryd.prog) V 34 5 Tryd.underlying34 Tryd.underlying5 b 0 s.size c (s.data.toList.map fun b => (b.toNat : Int)) (by simp) (fun i hi => by
    have hi2 : i < s.data.toList.length := by simpa using hi
    rw [Nat.zero_add, World.cell?_of_block (w := w) hbk, h i hi]
    simp [List.getD, hi]) 9 Tryd.underlying9
  rwa [Fk.sn_all] at this
set_option maxHeartbeats 6000000 in
theorem scans_mid (a0 : Option Addr) (len0 cap0 : Nat) (z0 : List EntS) (w : World) (hG : 0 < w.heap.size) (ht : Hid (Fc.Tab w)) (hrow : IsRS 5 4 w a0 len0 cap0 z0) :
    Calls Tryd.prog 4 #[.slice a0 len0 cap0] w fun e w' => e = .returned (.bool true) ∧ Below w.heap.size w w' := by
  have HNew := Lib.hid (Fk.new_any 18 (by decide) (by decide) w)
  have HLog : Hid (∀ W, Below w.heap.size w W → Calls Tryd.prog 10 #[] W fun e w' => e = .returned (.bool true) ∧ Hid (Below W.heap.size W w')) := Lib.hid fun W hW => logs_any W (Nat.lt_of_lt_of_le hG hW.size) (Lib.hid (Fc.tab_later ht.out hW))
  have HFm : Hid (∀ W g, Dq w.heap.size W g 18 (List.replicate 18 Fk.zeros) 0 → Fc.Tab W → Calls Tryd.prog 24 #[.pointer (some ⟨g, 0, none⟩), .int .i64 2, .int .i64 14] W fun e w' => e = .returned (.int .i64 0) ∧ (∃ s', Hid (Da w.heap.size w' g 18 s' 17) ∧ Quiet s' ∧ s'.W = [] ∧ s'.ls = fmt (List.replicate 18 Fk.zeros) 2 14) ∧ Below w.heap.size W w' ∧ KeepT g W w' ∧ Fc.Tab w') := Lib.hid fun W g hD hT => format_q hD 2 14 (by decide) (by decide) (by decide) (by decide) hG (Lib.hid hT)
  have hfull : Full (List.replicate 18 Fk.zeros) := fun s hs => by
    rw [(List.mem_replicate.1 hs).2, Fk.zeros_sec]
    exact Fk.secS_size 0
  have HInv := Lib.hid (LInv.fmt (ns := List.replicate 18 Fk.zeros) hfull 2 14 (by decide) (by simp))
  have HGh := Lib.hid hG
  have HRow := Lib.hid hrow
  have hle := rs_le hrow
  clear hG hrow hfull
  go_enter Tryd.func4, Tryd.ntmps4
  go_wp2_with fail
  refine HNew.out.mono ?_
  rintro e w1 ⟨g, gn, gl, cn, cl, rfl, hD, hb1⟩
  have hDq : Dq w.heap.size w1 g 18 (List.replicate 18 Fk.zeros) 0 := ⟨gn, gl, cn, cl, _, List.replicate 18 Fk.zeros, [], 0, by
    have e1 : Fk.strs (List.replicate 18 Fk.zeros) = List.replicate 18 (Value.string Fk.zeros) := by unfold Fk.strs; rw [List.map_replicate]
    rw [e1]
    exact hD, rfl, by simp, by simp, by decide, by decide⟩
  have HB1 := Lib.hid hb1
  have HLg := Lib.hid (HLog.out w1 hb1)
  have HDq := Lib.hid hDq
  clear hD hb1 hDq HLog HNew
  go_wp2_with fail
  refine HLg.out.mono ?_
  rintro e w2 ⟨rfl, hb2⟩
  have HB2 := Lib.hid (HB1.out.trans (hb2.out.mono HB1.out.size))
  have HF := Lib.hid (HFm.out w2 g (dq_below HDq.out hb2.out) (Fc.tab_later ht.out HB2.out))
  clear HLg hb2 HDq HB1 HFm
  go_wp2_with fail
  refine HF.out.mono ?_
  rintro e w3 ⟨rfl, hs, hb3, _, hT3⟩
  have HB3 := Lib.hid (HB2.out.trans hb3)
  have HS3 : Hid (∃ ns, Dq w.heap.size w3 g 18 ns 17 ∧ Full ns) := Lib.hid (by
    obtain ⟨s', d1, d2, d3, d4⟩ := hs
    refine ⟨s'.now, da_quiet d1.out d2, ?_⟩
    rw [now_ls d3, d4]
    exact HInv.out.full)
  clear hs hb3 hT3 HF HB2 HInv
  go_wp2_with fail
  go_loopw [5] (fun i wr => ∃ j : Nat, i = .int .i64 (j : Int) ∧ j ≤ 30 ∧ Hid (∃ ns, Dq w.heap.size wr g 18 ns (20 + j) ∧ Full ns) ∧ Hid (Below w.heap.size w wr)) (fun i _ => 30 - (intOf i).toNat)
  case atStart => exact ⟨0, rfl, by omega, Lib.hid (by obtain ⟨ns, h1, h2⟩ := HS3.out; exact ⟨ns, dq_mono h1 (by decide), h2⟩), HB3⟩
  case round =>
    obtain ⟨j, rfl, hj, hst, hbw⟩ := hrel
    obtain ⟨wo, rfl⟩ : ∃ wo : World, wo = wr := ⟨_, rfl⟩
    obtain ⟨ns, hdq, hfl⟩ := hst.out
    have HDq := Lib.hid hdq
    have HFl := Lib.hid hfl
    have HTb : Hid (∀ W, Below w.heap.size w W → Fc.Tab W) := Lib.hid fun W hW => Fc.tab_later ht.out hW
    clear hst hdq hfl HS3 HB3
    by_cases hlt : j < len0
    · by_cases hlt5 : j < 30
      · have hltI : (j : Int) < (len0 : Int) := by omega
        have hlt5I : (j : Int) < 30 := by omega
        have hw1 : IntKind.i64.wrap ((j : Int) + 1) = ((j + 1 : Nat) : Int) := by rw [IntKind.wrap_i64]; omega
        obtain ⟨ga, oa, sp, n, c, zz, rfl, hcell, hcame, hf⟩ := ent_at (by decide) (by decide) HRow.out j hlt
        obtain ⟨v0, f0, _, _⟩ := hf 0 (by decide) (by decide)
        obtain ⟨v1, f1, _, _⟩ := hf 1 (by decide) (by decide)
        obtain ⟨v2, f2, _, _⟩ := hf 2 (by decide) (by decide)
        obtain ⟨v3, f3, _, _⟩ := hf 3 (by decide) (by decide)
        obtain ⟨q, hq, hqn, hmin, hmin2⟩ : ∃ q : Nat, q ≤ 900 ∧ q ≤ n ∧ min (n : Int) 900 = (q : Int) ∧ (if (900 : Int) < (n : Int) then 900 else (n : Int)) = (q : Int) := ⟨min n 900, by omega, by omega, by omega, by split <;> omega⟩
        obtain ⟨b, hbn, hb256, hbrow⟩ := row_came hcame q hqn
        obtain ⟨tx, hU⟩ : ∃ tx, Fc.sv b = tx := ⟨_, rfl⟩
        have hUs : tx.size ≤ 900 := by rw [← hU, sv_size']; omega
        have HCv : ∀ W c', Below w.heap.size w W → (convert 34 9 (.slice sp q c')).run Tryd.prog W = .ok (.string tx) W := fun W c' hW => by
          have h1 := Fc.src_conv0 (Fc.src_later hbrow.src hW) c' (fun e => by
            rw [hbn]
            rcases Fc.came_addr hcame with ⟨_, h2, _⟩ | ⟨x, h2⟩
            · omega
            · rw [e] at h2; cases h2)
          rw [hU, hbn] at h1
          exact h1
        have hcl := Fc.came_le hcame
        have hca := Fc.came_addr hcame
        have hlive : ∀ {a v}, w.cell? a = some v → wo.cell? a = some v := fun h => (hbw.out.cell (World.block_lt_of_cell? w _ h)).trans h
        have c0 : wo.cell? ⟨ga, oa + j * 5, none⟩ = some (.int .i64 v0) := hlive f0
        have c1 := hlive f1
        have c2 := hlive f2
        have c3 := hlive f3
        have c4 := hlive hcell
        have hq0 : (q : Int) ≤ (n : Int) := by omega
        have hq1 : (q : Int) ≤ (c : Int) := by omega
        have hqc : q ≤ c := by omega
        have hsl0 : ∀ W, (Instr.slice 34 (.slice sp n c) none (some (.int .i64 (q : Int))) none).run Tryd.prog W = .ok (.slice sp q c) W := fun W => by
          cases sp with
          | none =>
            obtain ⟨rfl, rfl⟩ : n = 0 ∧ c = 0 := by
              rcases hca with ⟨_, h1, h2⟩ | ⟨x, h1⟩
              · exact ⟨h1, h2⟩
              · cases h1
            obtain rfl : q = 0 := by omega
            go_simp
          | some y => go_simp
        have hal : Below w.heap.size w (wo.alloc (.cells #[.int .i64 v0, .int .i64 v1, .int .i64 v2, .int .i64 v3, .slice sp n c] 52)) := hbw.out.trans (((Below.refl _ _).alloc (Nat.le_refl _) _).mono hbw.out.size)
        have hcv := HCv _ c hal
        have HAl := Lib.hid hal
        clear hcell hcame hbn hb256 hbrow hU hcl hca f0 f1 f2 f3 hf hlive HCv hal
        obtain ⟨kk, hk1, hk2⟩ := Fw.mod_cut1 v1 4 (by decide) (by decide)
        have hk3 : wrap64 ((IntKind.u64.wrap v1).tmod 4) = (kk : Int) := hk1
        obtain ⟨at0, ha1, ha2⟩ := Fw.mod_cut1 v0 14 (by decide) (by decide)
        have ha3 : wrap64 ((IntKind.u64.wrap v0).tmod 14) = (at0 : Int) := ha1
        have hw2 : IntKind.i64.wrap (2 + (at0 : Int)) = ((2 + at0 : Nat) : Int) := by rw [IntKind.wrap_i64]; omega
        obtain ⟨at2, hat2⟩ : ∃ a, 2 + at0 = a := ⟨_, rfl⟩
        rw [hat2] at hw2
        have hat3 : at2 < 18 := by omega
        clear hk1 ha1 hat2 ha2
        obtain ⟨Zs, hZ⟩ : ∃ z : List Nat, List.replicate 512 0 = z := ⟨_, rfl⟩
        have hmk : ∀ W, (Instr.makeSlice 34 (.int .i64 512) (.int .i64 512)).run Tryd.prog W = .ok (.slice (some ⟨W.heap.size, 0, none⟩) 512 512) (W.alloc (.cells (Fc.cells (List.replicate 512 0)).toArray 5)) := fun W => Fc.mk_bytes 512 (by decide) W
        rw [hZ] at hmk
        obtain ⟨Zt, hZt⟩ : ∃ z, Fc.sv Zs = z := ⟨_, rfl⟩
        have hZs : Zt.size = 512 := by rw [← hZt, sv_size', ← hZ]; simp
        have hcz : ∀ W : World, (convert 34 9 (.slice (some ⟨W.heap.size, 0, none⟩) 512 512)).run Tryd.prog (W.alloc (.cells (Fc.cells Zs).toArray 5)) = .ok (.string Zt) (W.alloc (.cells (Fc.cells Zs).toArray 5)) := fun W => by
          have h := Fc.src_conv0 ((row_zeros 0 512 W).src) 512 (fun e => by cases e)
          rw [hZ, hZt, ← hZ, List.length_replicate] at h
          rw [← hZ]
          exact h
        have hs1 : (wo.alloc (.cells #[.int .i64 v0, .int .i64 v1, .int .i64 v2, .int .i64 v3, .slice sp n c] 52)).heap.size = wo.heap.size + 1 := by simp
        have hcz1 := hcz (wo.alloc (.cells #[.int .i64 v0, .int .i64 v1, .int .i64 v2, .int .i64 v3, .slice sp n c] 52))
        rw [hs1] at hcz1
        clear hZ hZt hs1 hcz
        obtain rfl | rfl | rfl | rfl : kk = 0 ∨ kk = 1 ∨ kk = 2 ∨ kk = 3 := by omega
        · obtain ⟨t1, ht1⟩ : ∃ t, tx ++ Zt = t := ⟨_, rfl⟩
          have hadd : ∀ w, (Op.stringOp .add tx Zt).run Tryd.prog w = .ok (.string t1) w := fun w => by
            rw [← ht1]; exact run_string_add_sum (P := Tryd.prog) w tx Zt (by omega)
          have ht1s : 512 ≤ t1.size := by rw [← ht1, ByteArray.size_append]; omega
          obtain ⟨t2, ht2⟩ : ∃ t, t1.extract 0 512 = t := ⟨_, rfl⟩
          have hsz : t2.size = 512 := by rw [← ht2, ByteArray.size_extract]; omega
          have hsl1 : ∀ W, (Instr.slice 9 (.string t1) none (some (.int .i64 512)) none).run Tryd.prog W = .ok (.string t2) W := fun W => by
            rw [run_slice_string_to_if W 9 t1 .i64 512 Tryd.underlying9, if_pos (by omega), ← ht2]
            rfl
          have kc := fun W => Lib.run_convert_string_bytes (P := Tryd.prog) W 9 34 5 t2 Tryd.underlying9 Tryd.underlying34 Tryd.underlying5
          rw [hsz] at kc
          clear ht1 ht2
          go_wp2_with fail
          generalize h7 : World.alloc (World.alloc wo _) _ = w7
          have HB7 : Hid (Below w.heap.size w w7 ∧ Below wo.heap.size wo w7) := Lib.hid (by
            rw [← h7]
            have h1 : Below wo.heap.size wo (World.alloc wo (.cells #[.int .i64 v0, .int .i64 v1, .int .i64 v2, .int .i64 v3, .slice sp n c] 52)) := (Below.refl _ _).alloc (Nat.le_refl _) _
            have h2 := h1.trans (((Below.refl _ _).alloc (Nat.le_refl _) (.cells (Fc.cells Zs).toArray 5)).mono h1.size)
            exact ⟨hbw.out.trans (h2.mono hbw.out.size), h2⟩)
          have hs7 : w7.heap.size = wo.heap.size + 1 + 1 := by rw [← h7]; simp
          clear h7
          have HWr : Hid (∀ cp, Calls Tryd.prog 27 #[.pointer (some ⟨g, 0, none⟩), .int .i64 (at2 : Int), .slice (some ⟨w7.heap.size, 0, none⟩) 512 cp] (Lib.bytesWorld w7 5 t2) fun e w' => e = .returned (.int .i64 0) ∧ Hid (∃ ns, Dq w.heap.size w' g 18 ns (20 + (j + 1)) ∧ Full ns) ∧ Hid (Below w.heap.size w w')) := Lib.hid fun cp => by
            obtain ⟨r1, r2, r3⟩ := Fk.read_world w7 5 t2
            have hgl := (dq_lt HDq.out).1
            have hg7 : g < w7.heap.size := Nat.lt_of_lt_of_le hgl HB7.out.2.size
            refine (dq_writeX (dq_below (dq_below HDq.out HB7.out.2) r3) (by omega) (at2 : Int) at2 rfl hat3 (some ⟨w7.heap.size, 0, none⟩) cp t2 (fun V hV => by
              have h9 := back_only (c := cp) r1 hV r2 (by omega)
              rw [hsz] at h9
              exact h9)).mono ?_
            rintro e w' ⟨rfl, k1, k2, _⟩
            exact ⟨rfl, Lib.hid ⟨_, k1, full_set HFl.out at2 t2 hsz⟩, Lib.hid ((HB7.out.1.trans (r3.mono HB7.out.1.size)).trans k2)⟩
          rw [hs7] at HWr
          clear HDq HFl hbw HAl hs7
          refine (HWr.out _).mono ?_
          rintro e w9 ⟨rfl, HD9, HB9⟩
          clear HWr HB7
          go_wp2_with fail
          go_roundw
          case rel => exact ⟨j + 1, by go_num, by omega, HD9, HB9⟩
          case measure => simp [intOf]; omega
        · obtain ⟨hN, hm1, hm2, hm3⟩ := mod_big v3 1099511627776 (by decide) (by decide)
          have HHd := Lib.hid (fun W => headT_any hN (by omega) (by omega) W)
          go_wp2_with fail
          generalize h6 : World.alloc wo _ = w6
          have HX6 : Hid (∃ fr, w6.heap[wo.heap.size]? = some (.cells #[.int .i64 v0, .int .i64 v1, .int .i64 v2, .int .i64 v3, .slice sp n c] 52 fr)) := Lib.hid (by
            apply Exists.intro
            rw [← h6]; exact al_new _ _ _ rfl)
          have HB6 : Hid (Below w.heap.size w w6 ∧ Below wo.heap.size wo w6) := Lib.hid (by
            rw [← h6]
            have h1 : Below wo.heap.size wo (World.alloc wo (.cells #[.int .i64 v0, .int .i64 v1, .int .i64 v2, .int .i64 v3, .slice sp n c] 52)) := (Below.refl _ _).alloc (Nat.le_refl _) _
            exact ⟨hbw.out.trans (h1.mono hbw.out.size), h1⟩)
          clear h6 c0 c1 c2 c3 c4 hcv
          refine (HHd.out w6).mono ?_
          rintro e w7 ⟨t2, rfl, hsz, hb7⟩
          have kc := fun W => Lib.run_convert_string_bytes (P := Tryd.prog) W 9 34 5 t2 Tryd.underlying9 Tryd.underlying34 Tryd.underlying5
          rw [hsz] at kc
          have HB7 : Hid (Below w.heap.size w w7 ∧ Below wo.heap.size wo w7) := Lib.hid ⟨HB6.out.1.trans (hb7.out.mono HB6.out.1.size), HB6.out.2.trans (hb7.out.mono HB6.out.2.size)⟩
          have x0 : w7.cell? ⟨wo.heap.size, 0, none⟩ = some (.int .i64 v0) := by
            obtain ⟨fr, hX⟩ := HX6.out
            have hX2 : w7.heap[wo.heap.size]? = _ := (hb7.out.block _ (Array.getElem?_eq_some_iff.1 hX).1).trans hX
            simp [World.cell?, hX2]
          clear HX6 HB6 hb7
          go_wp2_with fail
          have HWr : Hid (∀ cp, Calls Tryd.prog 27 #[.pointer (some ⟨g, 0, none⟩), .int .i64 (at2 : Int), .slice (some ⟨w7.heap.size, 0, none⟩) 512 cp] (Lib.bytesWorld w7 5 t2) fun e w' => e = .returned (.int .i64 0) ∧ Hid (∃ ns, Dq w.heap.size w' g 18 ns (20 + (j + 1)) ∧ Full ns) ∧ Hid (Below w.heap.size w w')) := Lib.hid fun cp => by
            obtain ⟨r1, r2, r3⟩ := Fk.read_world w7 5 t2
            have hgl := (dq_lt HDq.out).1
            have hg7 : g < w7.heap.size := Nat.lt_of_lt_of_le hgl HB7.out.2.size
            refine (dq_writeX (dq_below (dq_below HDq.out HB7.out.2) r3) (by omega) (at2 : Int) at2 rfl hat3 (some ⟨w7.heap.size, 0, none⟩) cp t2 (fun V hV => by
              have h9 := back_only (c := cp) r1 hV r2 (by omega)
              rw [hsz] at h9
              exact h9)).mono ?_
            rintro e w' ⟨rfl, k1, k2, _⟩
            exact ⟨rfl, Lib.hid ⟨_, k1, full_set HFl.out at2 t2 hsz⟩, Lib.hid ((HB7.out.1.trans (r3.mono HB7.out.1.size)).trans k2)⟩
          clear HDq HFl hbw HAl
          refine (HWr.out _).mono ?_
          rintro e w9 ⟨rfl, HD9, HB9⟩
          clear HWr HB7
          go_wp2_with fail
          go_roundw
          case rel => exact ⟨j + 1, by go_num, by omega, HD9, HB9⟩
          case measure => simp [intOf]; omega
        · obtain ⟨ga5, hg1, hg2⟩ := Fw.mod_cut1 v2 5 (by decide) (by decide)
          have hg3 : wrap64 ((IntKind.u64.wrap v2).tmod 5) = (ga5 : Int) := hg1
          obtain ⟨gn6, hn1, hn2⟩ := Fw.mod_cut1 v3 6 (by decide) (by decide)
          have hn3 : wrap64 ((IntKind.u64.wrap v3).tmod 6) = (gn6 : Int) := hn1
          have HFi := Lib.hid (fun W => firstT_any (ga5 : Int) (gn6 : Int) ⟨by omega, by omega⟩ ⟨by omega, by omega⟩ tx (by omega) W)
          clear hg1 hn1
          go_wp2_with fail
          generalize h6 : World.alloc wo _ = w6
          have HX6 : Hid (∃ fr, w6.heap[wo.heap.size]? = some (.cells #[.int .i64 v0, .int .i64 v1, .int .i64 v2, .int .i64 v3, .slice sp n c] 52 fr)) := Lib.hid (by
            apply Exists.intro
            rw [← h6]; exact al_new _ _ _ rfl)
          have HB6 : Hid (Below w.heap.size w w6 ∧ Below wo.heap.size wo w6) := Lib.hid (by
            rw [← h6]
            have h1 : Below wo.heap.size wo (World.alloc wo (.cells #[.int .i64 v0, .int .i64 v1, .int .i64 v2, .int .i64 v3, .slice sp n c] 52)) := (Below.refl _ _).alloc (Nat.le_refl _) _
            exact ⟨hbw.out.trans (h1.mono hbw.out.size), h1⟩)
          clear h6 c0 c1 c2 c3 c4 hcv
          refine (HFi.out w6).mono ?_
          rintro e w7 ⟨t2, rfl, hsz, hb7⟩
          have kc := fun W => Lib.run_convert_string_bytes (P := Tryd.prog) W 9 34 5 t2 Tryd.underlying9 Tryd.underlying34 Tryd.underlying5
          rw [hsz] at kc
          have HB7 : Hid (Below w.heap.size w w7 ∧ Below wo.heap.size wo w7) := Lib.hid ⟨HB6.out.1.trans (hb7.out.mono HB6.out.1.size), HB6.out.2.trans (hb7.out.mono HB6.out.2.size)⟩
          have x0 : w7.cell? ⟨wo.heap.size, 0, none⟩ = some (.int .i64 v0) := by
            obtain ⟨fr, hX⟩ := HX6.out
            have hX2 : w7.heap[wo.heap.size]? = _ := (hb7.out.block _ (Array.getElem?_eq_some_iff.1 hX).1).trans hX
            simp [World.cell?, hX2]
          clear HX6 HB6 hb7
          go_wp2_with fail
          have HWr : Hid (∀ cp, Calls Tryd.prog 27 #[.pointer (some ⟨g, 0, none⟩), .int .i64 (at2 : Int), .slice (some ⟨w7.heap.size, 0, none⟩) 512 cp] (Lib.bytesWorld w7 5 t2) fun e w' => e = .returned (.int .i64 0) ∧ Hid (∃ ns, Dq w.heap.size w' g 18 ns (20 + (j + 1)) ∧ Full ns) ∧ Hid (Below w.heap.size w w')) := Lib.hid fun cp => by
            obtain ⟨r1, r2, r3⟩ := Fk.read_world w7 5 t2
            have hgl := (dq_lt HDq.out).1
            have hg7 : g < w7.heap.size := Nat.lt_of_lt_of_le hgl HB7.out.2.size
            refine (dq_writeX (dq_below (dq_below HDq.out HB7.out.2) r3) (by omega) (at2 : Int) at2 rfl hat3 (some ⟨w7.heap.size, 0, none⟩) cp t2 (fun V hV => by
              have h9 := back_only (c := cp) r1 hV r2 (by omega)
              rw [hsz] at h9
              exact h9)).mono ?_
            rintro e w' ⟨rfl, k1, k2, _⟩
            exact ⟨rfl, Lib.hid ⟨_, k1, full_set HFl.out at2 t2 hsz⟩, Lib.hid ((HB7.out.1.trans (r3.mono HB7.out.1.size)).trans k2)⟩
          clear HDq HFl hbw HAl
          refine (HWr.out _).mono ?_
          rintro e w9 ⟨rfl, HD9, HB9⟩
          clear HWr HB7
          go_wp2_with fail
          go_roundw
          case rel => exact ⟨j + 1, by go_num, by omega, HD9, HB9⟩
          case measure => simp [intOf]; omega
        · obtain ⟨t0, ht0⟩ : ∃ t, (⟨#[68]⟩ : ByteArray) ++ tx = t := ⟨_, rfl⟩
          have hadd0 : ∀ w, (Op.stringOp .add ⟨#[68]⟩ tx).run Tryd.prog w = .ok (.string t0) w := fun w => by
            rw [← ht0]; exact run_string_add_sum (P := Tryd.prog) w ⟨#[68]⟩ tx (by have : (⟨#[68]⟩ : ByteArray).size = 1 := rfl; omega)
          have ht0s : t0.size ≤ 901 := by rw [← ht0, ByteArray.size_append]; have : (⟨#[68]⟩ : ByteArray).size = 1 := rfl; omega
          obtain ⟨t1, ht1⟩ : ∃ t, t0 ++ Zt = t := ⟨_, rfl⟩
          have hadd : ∀ w, (Op.stringOp .add t0 Zt).run Tryd.prog w = .ok (.string t1) w := fun w => by
            rw [← ht1]; exact run_string_add_sum (P := Tryd.prog) w t0 Zt (by omega)
          have ht1s : 512 ≤ t1.size := by rw [← ht1, ByteArray.size_append]; omega
          obtain ⟨t2, ht2⟩ : ∃ t, t1.extract 0 512 = t := ⟨_, rfl⟩
          have hsz : t2.size = 512 := by rw [← ht2, ByteArray.size_extract]; omega
          have hsl1 : ∀ W, (Instr.slice 9 (.string t1) none (some (.int .i64 512)) none).run Tryd.prog W = .ok (.string t2) W := fun W => by
            rw [run_slice_string_to_if W 9 t1 .i64 512 Tryd.underlying9, if_pos (by omega), ← ht2]
            rfl
          have kc := fun W => Lib.run_convert_string_bytes (P := Tryd.prog) W 9 34 5 t2 Tryd.underlying9 Tryd.underlying34 Tryd.underlying5
          rw [hsz] at kc
          clear ht0 ht1 ht2
          go_wp2_with fail
          generalize h7 : World.alloc (World.alloc wo _) _ = w7
          have HB7 : Hid (Below w.heap.size w w7 ∧ Below wo.heap.size wo w7) := Lib.hid (by
            rw [← h7]
            have h1 : Below wo.heap.size wo (World.alloc wo (.cells #[.int .i64 v0, .int .i64 v1, .int .i64 v2, .int .i64 v3, .slice sp n c] 52)) := (Below.refl _ _).alloc (Nat.le_refl _) _
            have h2 := h1.trans (((Below.refl _ _).alloc (Nat.le_refl _) (.cells (Fc.cells Zs).toArray 5)).mono h1.size)
            exact ⟨hbw.out.trans (h2.mono hbw.out.size), h2⟩)
          have hs7 : w7.heap.size = wo.heap.size + 1 + 1 := by rw [← h7]; simp
          clear h7
          have HWr : Hid (∀ cp, Calls Tryd.prog 27 #[.pointer (some ⟨g, 0, none⟩), .int .i64 (at2 : Int), .slice (some ⟨w7.heap.size, 0, none⟩) 512 cp] (Lib.bytesWorld w7 5 t2) fun e w' => e = .returned (.int .i64 0) ∧ Hid (∃ ns, Dq w.heap.size w' g 18 ns (20 + (j + 1)) ∧ Full ns) ∧ Hid (Below w.heap.size w w')) := Lib.hid fun cp => by
            obtain ⟨r1, r2, r3⟩ := Fk.read_world w7 5 t2
            have hgl := (dq_lt HDq.out).1
            have hg7 : g < w7.heap.size := Nat.lt_of_lt_of_le hgl HB7.out.2.size
            refine (dq_writeX (dq_below (dq_below HDq.out HB7.out.2) r3) (by omega) (at2 : Int) at2 rfl hat3 (some ⟨w7.heap.size, 0, none⟩) cp t2 (fun V hV => by
              have h9 := back_only (c := cp) r1 hV r2 (by omega)
              rw [hsz] at h9
              exact h9)).mono ?_
            rintro e w' ⟨rfl, k1, k2, _⟩
            exact ⟨rfl, Lib.hid ⟨_, k1, full_set HFl.out at2 t2 hsz⟩, Lib.hid ((HB7.out.1.trans (r3.mono HB7.out.1.size)).trans k2)⟩
          rw [hs7] at HWr
          clear HDq HFl hbw HAl hs7
          refine (HWr.out _).mono ?_
          rintro e w9 ⟨rfl, HD9, HB9⟩
          clear HWr HB7
          go_wp2_with fail
          go_roundw
          case rel => exact ⟨j + 1, by go_num, by omega, HD9, HB9⟩
          case measure => simp [intOf]; omega
      · obtain rfl : j = 30 := by omega
        have hltI : ((30 : Nat) : Int) < (len0 : Int) := by omega
        have HBa := Lib.hid (dq_lasts HDq.out (by omega))
        have hb20 := (sb_get HFl.out 2 (by rw [dq_len HDq.out]; decide)).2.2
        have hb30 := (sb_get HFl.out 3 (by rw [dq_len HDq.out]; decide)).2.2
        obtain ⟨ag, hd, hst⟩ : ∃ ag hd, stAt (fun q => sb ns (2 + q)) 2 = (ag, hd) := ⟨_, _, rfl⟩
        have hagT : max (ageT (sb ns 2)) (ageT (sb ns (2 + 1))) = ag := by
          have h1 := stAt_two (fun q => sb ns (2 + q)) hb20 hb30
          rw [hst] at h1
          exact h1.symm
        have hag0 : 0 ≤ ag ∧ ag ≤ 4611686018427387904 := by
          have h1 := ageT_in _ hb20
          have h2 := ageT_in _ hb30
          have h3 : max (ageT (sb ns 2)) (ageT (sb ns 3)) = ag := hagT
          omega
        have HNl := Lib.hid (dq_len HDq.out)
        go_wp2_with fail
        refine HBa.out.mono ?_
        rintro e w4 ⟨rfl, ⟨s, hDa, hqt, hls, hnow⟩, hb4, _⟩
        have HB4 := Lib.hid (hbw.out.trans hb4.out)
        have HOp : Hid (Calls Tryd.prog 18 #[.pointer (some ⟨g, 0, none⟩), .int .i64 2, .int .i64 14] w4 fun e w' => ((ag = 0 ∧ e = .returned (.tuple #[.pointer none, .slice none 0 0, .int .i64 9])) ∨ (ag ≠ 0 ∧ ∃ (l j q m : Nat) (bs : List (List Nat)) (rs : Value), e = .returned (.tuple #[.pointer (some ⟨l, 0, none⟩), rs, .int .i64 0]) ∧ scn ns (2 + 2) (2 + 14) ag j = (bs, q, m) ∧ bs.length = m ∧ readS ns q (2 + 14) ag (m : Int) = none ∧ w4.heap.size ≤ l ∧ q ≤ 2 + 14 ∧ Hid (LogAt w' l g 2 16 (q : Int) (m : Int) ag hd 0) ∧ Hid (RecsAt (w4.heap.size + 1) l w' rs bs))) ∧ Hid (Below w4.heap.size w4 w')) := Lib.hid (open_any (by have h1 := da_quiet hDa.out hqt; rw [hnow] at h1; exact h1) HFl.out 2 14 (by decide) (by decide) (by decide) HGh.out (Lib.hid (HTb.out w4 HB4.out)) ag hd hst)
        have HSe : Hid (∀ W, Below w4.heap.size w4 W → Calls Tryd.prog 21 #[.pointer (some ⟨g, 0, none⟩)] W fun e w' => ∃ gS c, e = .returned (.slice (some ⟨gS, 0, none⟩) 14 c) ∧ 14 ≤ c ∧ Hid (∀ i, i < 14 → w'.cell? ⟨gS, i, none⟩ = some (.string (ns.getD (2 + i) ByteArray.empty))) ∧ Hid (Below W.heap.size W w')) := Lib.hid fun W hW => by
          have h1 := sectors_x (da_below hDa.out hW) (by rw [hls]; exact HFl.out)
          rw [hls] at h1
          exact h1
        have HSc : Hid (∀ W gS c, 14 ≤ c → Hid (∀ i, i < 14 → W.cell? ⟨gS, i, none⟩ = some (.string (ns.getD (2 + i) ByteArray.empty))) → Calls Tryd.prog 20 #[.slice (some ⟨gS, 0, none⟩) 14 c] W fun e w' => ((ag = 0 ∧ e = .returned (.tuple #[.int .i64 0, .slice none 0 0, .int .i64 0])) ∨ (ag ≠ 0 ∧ ∃ (bs : List (List Nat)) (x : Nat) (v : Value), e = .returned (.tuple #[.int .i64 ag, v, .int .i64 (x : Int)]) ∧ Recs ns (2 + 14) ag (2 + 2) bs (2 + x) ∧ readS ns (2 + x) (2 + 14) ag (bs.length : Int) = none ∧ Hid (w'.ownsRow W.heap.size 9 1 v bs.length (Fk.strs (bs.map Fc.sv)) ∧ (bs = [] → v = .slice none 0 0)))) ∧ Hid (Below W.heap.size W w')) := Lib.hid fun W gS c hc hcl => scan_x ns 2 14 (by decide) (by decide) HFl.out (by rw [HNl.out]; decide) (by decide) gS c hc ag hagT W (fun i hi => by rw [hcl.out i hi, sb_sv])
        clear HBa hDa hqt hls hnow hb4 hb20 hb30 hst hagT
        go_wp2_with fail
        refine HOp.out.mono ?_
        rintro e w5 ⟨hres, HB5⟩
        have HB6 := Lib.hid (HB4.out.trans (HB5.out.mono HB4.out.size))
        have HS5 := Lib.hid (HSe.out w5 HB5.out)
        clear HOp HSe
        by_cases hz : ag = 0
        · have he : e = .returned (.tuple #[.pointer none, .slice none 0 0, .int .i64 9]) := by
            rcases hres with ⟨_, h⟩ | ⟨h, _⟩
            · exact h
            · exact absurd hz h
          subst he
          subst hz
          clear hres
          go_wp2_with fail
          refine HS5.out.mono ?_
          rintro e w6 ⟨gS, cS, rfl, hcS, HCe, HB7⟩
          have HB8 := Lib.hid (HB6.out.trans (HB7.out.mono HB6.out.size))
          have HS6 := Lib.hid (HSc.out w6 gS cS hcS HCe)
          clear HS5 HSc HCe
          go_wp2_with fail
          refine HS6.out.mono ?_
          rintro e w7 ⟨hres2, HB9⟩
          have he2 : e = .returned (.tuple #[.int .i64 0, .slice none 0 0, .int .i64 0]) := by
            rcases hres2 with ⟨_, h⟩ | ⟨h, _⟩
            · exact h
            · exact absurd rfl h
          subst he2
          have HBf := Lib.hid (HB8.out.trans (HB9.out.mono HB8.out.size))
          clear hres2 HS6
          go_wp2_with fail
          go_ret
          exact ⟨rfl, HBf.out⟩
        · obtain ⟨l, j', q, m, bs, rs, rfl, hscn, hbm, hno, hl, hqe, HLo, HRs⟩ : ∃ (l j q m : Nat) (bs : List (List Nat)) (rs : Value), e = .returned (.tuple #[.pointer (some ⟨l, 0, none⟩), rs, .int .i64 0]) ∧ scn ns (2 + 2) (2 + 14) ag j = (bs, q, m) ∧ bs.length = m ∧ readS ns q (2 + 14) ag (m : Int) = none ∧ w4.heap.size ≤ l ∧ q ≤ 2 + 14 ∧ Hid (LogAt w5 l g 2 16 (q : Int) (m : Int) ag hd 0) ∧ Hid (RecsAt (w4.heap.size + 1) l w5 rs bs) := by
            rcases hres with ⟨h, _⟩ | ⟨_, h⟩
            · exact absurd h hz
            · exact h
          have HUn : Hid (∀ bs2 x, Recs ns (2 + 14) ag (2 + 2) bs2 x → readS ns x (2 + 14) ag (bs2.length : Int) = none → bs = bs2 ∧ q = x) := Lib.hid fun bs2 x h1 h2 => ⟨(recs_unique h1 h2 hscn hno).1, (recs_unique h1 h2 hscn hno).2.1⟩
          have hzb : (ag == (0 : Int)) = false := by simp [hz]
          clear hres hscn hno hbm hl
          go_wp2_with fail
          refine HS5.out.mono ?_
          rintro e w6 ⟨gS, cS, rfl, hcS, HCe, HB7⟩
          have HB8 := Lib.hid (HB6.out.trans (HB7.out.mono HB6.out.size))
          have HS6 := Lib.hid (HSc.out w6 gS cS hcS HCe)
          clear HS5 HSc HCe
          go_wp2_with fail
          refine HS6.out.mono ?_
          rintro e w7 ⟨hres2, HB9⟩
          obtain ⟨bs2, x, v, rfl, hRec, hno2, hOwn⟩ : ∃ (bs : List (List Nat)) (x : Nat) (v : Value), e = .returned (.tuple #[.int .i64 ag, v, .int .i64 (x : Int)]) ∧ Recs ns (2 + 14) ag (2 + 2) bs (2 + x) ∧ readS ns (2 + x) (2 + 14) ag (bs.length : Int) = none ∧ Hid (w7.ownsRow w6.heap.size 9 1 v bs.length (Fk.strs (bs.map Fc.sv)) ∧ (bs = [] → v = .slice none 0 0)) := by
            rcases hres2 with ⟨h, _⟩ | ⟨_, h⟩
            · exact absurd h hz
            · exact h
          obtain ⟨rfl, hqx⟩ := HUn.out bs2 (2 + x) hRec hno2
          have hlb : bs.length ≤ 1000 := by have := recs_ge hRec; omega
          have HB57 : Hid (Below w5.heap.size w5 w7) := Lib.hid (HB7.out.trans (HB9.out.mono HB7.out.size))
          have HAg := Lib.hid (age_any (log_below HLo.out HB57.out))
          have HBf := Lib.hid (HB8.out.trans (HB9.out.mono HB8.out.size))
          obtain ⟨ra, rn, rc, rfl, hRb⟩ := rowb_recs HRs.out
          obtain ⟨sa, sn, sc, rfl, hRs⟩ := rows_own (ss := bs.map Fc.sv) (by rw [List.length_map]; exact hOwn.out.1) (fun h => hOwn.out.2 (by simpa using h))
          have HSm := Lib.hid (same_any ra rn rc bs sa sn sc (bs.map Fc.sv) w7 (rowb_below hRb HB57.out) hRs (by have := hRb.1; omega) (by have := hRs.1; rw [List.length_map] at this; omega) true ⟨fun _ => rfl, fun _ => rfl⟩)
          clear hres2 HS6 hRec hno2 hOwn HUn HLo HRs hRb hRs hqx
          go_wp2_with fail
          refine HAg.out.mono ?_
          rintro e w8 ⟨rfl, rfl⟩
          clear HAg
          go_wp2_with fail
          refine HSm.out.mono ?_
          rintro e w9 ⟨rfl, HBz⟩
          have HBg := Lib.hid (HBf.out.trans (HBz.out.mono HBf.out.size))
          clear HSm
          go_wp2_with fail
          go_ret
          exact ⟨rfl, HBg.out⟩
    · have hltI : ¬ ((j : Int) < (len0 : Int)) := by omega
      have HBa := Lib.hid (dq_lasts HDq.out (by omega))
      have hb20 := (sb_get HFl.out 2 (by rw [dq_len HDq.out]; decide)).2.2
      have hb30 := (sb_get HFl.out 3 (by rw [dq_len HDq.out]; decide)).2.2
      obtain ⟨ag, hd, hst⟩ : ∃ ag hd, stAt (fun q => sb ns (2 + q)) 2 = (ag, hd) := ⟨_, _, rfl⟩
      have hagT : max (ageT (sb ns 2)) (ageT (sb ns (2 + 1))) = ag := by
        have h1 := stAt_two (fun q => sb ns (2 + q)) hb20 hb30
        rw [hst] at h1
        exact h1.symm
      have hag0 : 0 ≤ ag ∧ ag ≤ 4611686018427387904 := by
        have h1 := ageT_in _ hb20
        have h2 := ageT_in _ hb30
        have h3 : max (ageT (sb ns 2)) (ageT (sb ns 3)) = ag := hagT
        omega
      have HNl := Lib.hid (dq_len HDq.out)
      go_wp2_with fail
      refine HBa.out.mono ?_
      rintro e w4 ⟨rfl, ⟨s, hDa, hqt, hls, hnow⟩, hb4, _⟩
      have HB4 := Lib.hid (hbw.out.trans hb4.out)
      have HOp : Hid (Calls Tryd.prog 18 #[.pointer (some ⟨g, 0, none⟩), .int .i64 2, .int .i64 14] w4 fun e w' => ((ag = 0 ∧ e = .returned (.tuple #[.pointer none, .slice none 0 0, .int .i64 9])) ∨ (ag ≠ 0 ∧ ∃ (l j q m : Nat) (bs : List (List Nat)) (rs : Value), e = .returned (.tuple #[.pointer (some ⟨l, 0, none⟩), rs, .int .i64 0]) ∧ scn ns (2 + 2) (2 + 14) ag j = (bs, q, m) ∧ bs.length = m ∧ readS ns q (2 + 14) ag (m : Int) = none ∧ w4.heap.size ≤ l ∧ q ≤ 2 + 14 ∧ Hid (LogAt w' l g 2 16 (q : Int) (m : Int) ag hd 0) ∧ Hid (RecsAt (w4.heap.size + 1) l w' rs bs))) ∧ Hid (Below w4.heap.size w4 w')) := Lib.hid (open_any (by have h1 := da_quiet hDa.out hqt; rw [hnow] at h1; exact h1) HFl.out 2 14 (by decide) (by decide) (by decide) HGh.out (Lib.hid (HTb.out w4 HB4.out)) ag hd hst)
      have HSe : Hid (∀ W, Below w4.heap.size w4 W → Calls Tryd.prog 21 #[.pointer (some ⟨g, 0, none⟩)] W fun e w' => ∃ gS c, e = .returned (.slice (some ⟨gS, 0, none⟩) 14 c) ∧ 14 ≤ c ∧ Hid (∀ i, i < 14 → w'.cell? ⟨gS, i, none⟩ = some (.string (ns.getD (2 + i) ByteArray.empty))) ∧ Hid (Below W.heap.size W w')) := Lib.hid fun W hW => by
        have h1 := sectors_x (da_below hDa.out hW) (by rw [hls]; exact HFl.out)
        rw [hls] at h1
        exact h1
      have HSc : Hid (∀ W gS c, 14 ≤ c → Hid (∀ i, i < 14 → W.cell? ⟨gS, i, none⟩ = some (.string (ns.getD (2 + i) ByteArray.empty))) → Calls Tryd.prog 20 #[.slice (some ⟨gS, 0, none⟩) 14 c] W fun e w' => ((ag = 0 ∧ e = .returned (.tuple #[.int .i64 0, .slice none 0 0, .int .i64 0])) ∨ (ag ≠ 0 ∧ ∃ (bs : List (List Nat)) (x : Nat) (v : Value), e = .returned (.tuple #[.int .i64 ag, v, .int .i64 (x : Int)]) ∧ Recs ns (2 + 14) ag (2 + 2) bs (2 + x) ∧ readS ns (2 + x) (2 + 14) ag (bs.length : Int) = none ∧ Hid (w'.ownsRow W.heap.size 9 1 v bs.length (Fk.strs (bs.map Fc.sv)) ∧ (bs = [] → v = .slice none 0 0)))) ∧ Hid (Below W.heap.size W w')) := Lib.hid fun W gS c hc hcl => scan_x ns 2 14 (by decide) (by decide) HFl.out (by rw [HNl.out]; decide) (by decide) gS c hc ag hagT W (fun i hi => by rw [hcl.out i hi, sb_sv])
      clear HBa hDa hqt hls hnow hb4 hb20 hb30 hst hagT
      go_wp2_with fail
      refine HOp.out.mono ?_
      rintro e w5 ⟨hres, HB5⟩
      have HB6 := Lib.hid (HB4.out.trans (HB5.out.mono HB4.out.size))
      have HS5 := Lib.hid (HSe.out w5 HB5.out)
      clear HOp HSe
      by_cases hz : ag = 0
      · have he : e = .returned (.tuple #[.pointer none, .slice none 0 0, .int .i64 9]) := by
          rcases hres with ⟨_, h⟩ | ⟨h, _⟩
          · exact h
          · exact absurd hz h
        subst he
        subst hz
        clear hres
        go_wp2_with fail
        refine HS5.out.mono ?_
        rintro e w6 ⟨gS, cS, rfl, hcS, HCe, HB7⟩
        have HB8 := Lib.hid (HB6.out.trans (HB7.out.mono HB6.out.size))
        have HS6 := Lib.hid (HSc.out w6 gS cS hcS HCe)
        clear HS5 HSc HCe
        go_wp2_with fail
        refine HS6.out.mono ?_
        rintro e w7 ⟨hres2, HB9⟩
        have he2 : e = .returned (.tuple #[.int .i64 0, .slice none 0 0, .int .i64 0]) := by
          rcases hres2 with ⟨_, h⟩ | ⟨h, _⟩
          · exact h
          · exact absurd rfl h
        subst he2
        have HBf := Lib.hid (HB8.out.trans (HB9.out.mono HB8.out.size))
        clear hres2 HS6
        go_wp2_with fail
        go_ret
        exact ⟨rfl, HBf.out⟩
      · obtain ⟨l, j', q, m, bs, rs, rfl, hscn, hbm, hno, hl, hqe, HLo, HRs⟩ : ∃ (l j q m : Nat) (bs : List (List Nat)) (rs : Value), e = .returned (.tuple #[.pointer (some ⟨l, 0, none⟩), rs, .int .i64 0]) ∧ scn ns (2 + 2) (2 + 14) ag j = (bs, q, m) ∧ bs.length = m ∧ readS ns q (2 + 14) ag (m : Int) = none ∧ w4.heap.size ≤ l ∧ q ≤ 2 + 14 ∧ Hid (LogAt w5 l g 2 16 (q : Int) (m : Int) ag hd 0) ∧ Hid (RecsAt (w4.heap.size + 1) l w5 rs bs) := by
          rcases hres with ⟨h, _⟩ | ⟨_, h⟩
          · exact absurd h hz
          · exact h
        have HUn : Hid (∀ bs2 x, Recs ns (2 + 14) ag (2 + 2) bs2 x → readS ns x (2 + 14) ag (bs2.length : Int) = none → bs = bs2 ∧ q = x) := Lib.hid fun bs2 x h1 h2 => ⟨(recs_unique h1 h2 hscn hno).1, (recs_unique h1 h2 hscn hno).2.1⟩
        have hzb : (ag == (0 : Int)) = false := by simp [hz]
        clear hres hscn hno hbm hl
        go_wp2_with fail
        refine HS5.out.mono ?_
        rintro e w6 ⟨gS, cS, rfl, hcS, HCe, HB7⟩
        have HB8 := Lib.hid (HB6.out.trans (HB7.out.mono HB6.out.size))
        have HS6 := Lib.hid (HSc.out w6 gS cS hcS HCe)
        clear HS5 HSc HCe
        go_wp2_with fail
        refine HS6.out.mono ?_
        rintro e w7 ⟨hres2, HB9⟩
        obtain ⟨bs2, x, v, rfl, hRec, hno2, hOwn⟩ : ∃ (bs : List (List Nat)) (x : Nat) (v : Value), e = .returned (.tuple #[.int .i64 ag, v, .int .i64 (x : Int)]) ∧ Recs ns (2 + 14) ag (2 + 2) bs (2 + x) ∧ readS ns (2 + x) (2 + 14) ag (bs.length : Int) = none ∧ Hid (w7.ownsRow w6.heap.size 9 1 v bs.length (Fk.strs (bs.map Fc.sv)) ∧ (bs = [] → v = .slice none 0 0)) := by
          rcases hres2 with ⟨h, _⟩ | ⟨_, h⟩
          · exact absurd h hz
          · exact h
        obtain ⟨rfl, hqx⟩ := HUn.out bs2 (2 + x) hRec hno2
        have hlb : bs.length ≤ 1000 := by have := recs_ge hRec; omega
        have HB57 : Hid (Below w5.heap.size w5 w7) := Lib.hid (HB7.out.trans (HB9.out.mono HB7.out.size))
        have HAg := Lib.hid (age_any (log_below HLo.out HB57.out))
        have HBf := Lib.hid (HB8.out.trans (HB9.out.mono HB8.out.size))
        obtain ⟨ra, rn, rc, rfl, hRb⟩ := rowb_recs HRs.out
        obtain ⟨sa, sn, sc, rfl, hRs⟩ := rows_own (ss := bs.map Fc.sv) (by rw [List.length_map]; exact hOwn.out.1) (fun h => hOwn.out.2 (by simpa using h))
        have HSm := Lib.hid (same_any ra rn rc bs sa sn sc (bs.map Fc.sv) w7 (rowb_below hRb HB57.out) hRs (by have := hRb.1; omega) (by have := hRs.1; rw [List.length_map] at this; omega) true ⟨fun _ => rfl, fun _ => rfl⟩)
        clear hres2 HS6 hRec hno2 hOwn HUn HLo HRs hRb hRs hqx
        go_wp2_with fail
        refine HAg.out.mono ?_
        rintro e w8 ⟨rfl, rfl⟩
        clear HAg
        go_wp2_with fail
        refine HSm.out.mono ?_
        rintro e w9 ⟨rfl, HBz⟩
        have HBg := Lib.hid (HBf.out.trans (HBz.out.mono HBf.out.size))
        clear HSm
        go_wp2_with fail
        go_ret
        exact ⟨rfl, HBg.out⟩
end Go.Proofs.YtfhgdcljhncjmaaDoor
