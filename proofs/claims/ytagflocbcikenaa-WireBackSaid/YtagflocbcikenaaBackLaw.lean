/- The walk of the law WireBack. -/
import Derived.Test.YtagflocbcikenaaBackW
namespace Go.Proofs.Ytagflocbcikenaa
open Go.ChangeShapes Go.WideShapes Go.ChangeAt Go.RowKit Go.Lib
set_option linter.unusedVariables false

set_option maxRecDepth 100000 in
set_option maxHeartbeats 8000000 in
theorem back_mid (a0 b0 : Option Addr) (len0 cap0 len1 cap1 p q : Nat) (hp0 : p ≤ len0) (hq0 : q ≤ len1) (hp : p ≤ 30) (hq : q ≤ 30) (hc0 : len0 ≤ cap0) (hc1 : len1 ≤ cap1) (hm0 : cap0 ≤ 9223372036854775807) (hm1 : cap1 ≤ 9223372036854775807)
    (hmin0 : (if (30 : Int) < (len0 : Int) then 30 else (len0 : Int)) = (p : Int)) (hmin1 : (if (30 : Int) < (len1 : Int) then 30 else (len1 : Int)) = (q : Int)) (cut : Int) (w : World)
    (ns : List Int) (us : List ByteArray) (hns : ns.length = p) (hus : us.length = q) (hI : ∀ n ∈ ns, IntOk n) (hT : ∀ t ∈ us, t.size ≤ maxLen) (hSI : SrcI w a0 ns) (hSS : SrcS w b0 us) :
    Calls Try.prog 5 #[.slice a0 len0 cap0, .slice b0 len1 cap1, .int .i64 cut] w fun e w' => e = .returned (.bool true) ∧ Below w.heap.size w w' := by
  obtain ⟨i0, hi, hz0, hz1, hz2⟩ := info_parts info8
  have hpi : (p : Int) ≤ (cap0 : Int) := by omega
  have hqi : (q : Int) ≤ (cap1 : Int) := by omega
  have HSI : Hid (∀ W, Below w.heap.size w W → SrcI W a0 ns) := Lib.hid fun W hb => srcI_later hSI hb
  have HSS : Hid (∀ W, Below w.heap.size w W → SrcS W b0 us) := Lib.hid fun W hb => srcS_later hSS hb
  have HI := Lib.hid hI
  have Hns := Lib.hid (fun _ : True => hns)
  have Hus := Lib.hid (fun _ : True => hus)
  have HUs := Lib.hid hT
  clear hSI hSS hI hns hus hT
  go_enter Try.func5, Try.ntmps5
  go_wp2_with fail
  go_quiet (fail)
  clear hmin0 hmin1 hpi hqi
  have HW0 : Hid (Below w.heap.size w (w.drewN nq)) := Lib.hid (below_drewN (Below.refl _ w) nq)
  go_wp2_with fail
  go_loopw [7, 8] (fun b i wr => ∃ (j : Nat) (v : Value), v = b ∧ i = .int .i64 (j : Int) ∧ j ≤ p ∧ Hid (Own w.heap.size v (encN (ns.take j)).flatten wr) ∧ Hid (Below w.heap.size w wr)) (fun _ i _ => p - (intOf i).toNat)
  case atStart => exact ⟨0, _, rfl, rfl, by omega, Lib.hid (World.ownsRow_nil _ _ _ _), HW0⟩
  case round =>
    obtain ⟨j, v, rfl, rfl, hjp, hown, hbel⟩ := hrel
    clear HW0
    by_cases hj : j < p
    · obtain ⟨g, o, rfl, hcs⟩ := HSI.out _ hbel.out (by rw [Hns.out trivial]; omega)
      have hcell := hcs j (by rw [Hns.out trivial]; exact hj)
      have HN := Lib.hid (fun W => num_app (ns.getD j 0) (getD_int HI.out j) W)
      have HE : Hid (True → (encN (ns.take (j + 1))).flatten = (encN (ns.take j)).flatten ++ vb (zz (ns.getD j 0))) := Lib.hid fun _ => encN_snoc ns j (by rw [Hns.out trivial]; exact hj)
      have hL1 : Hid ((encN (ns.take j)).flatten.length ≤ 10 * 30) := Lib.hid (Nat.le_trans (encN_len _ fun n hn => HI.out n (List.mem_of_mem_take hn)) (by rw [List.length_take]; omega))
      have hL2 : Hid ((vb (zz (ns.getD j 0))).length ≤ 10) := Lib.hid (vb_ten _ (zz_lt _ (getD_int HI.out j).1 (getD_int HI.out j).2))
      generalize ns.getD j 0 = x at *
      clear hcs
      have hsz := hbel.out.size
      go_wp2_with fail
      refine (HN.out _).mono ?_
      rintro e w1 ⟨g2, cap2, rfl, hnews, hb1⟩
      have hown1 := Lib.hid (own_later hown.out hb1.out)
      have hbw1 := Lib.hid (chain2 hbel.out hb1.out)
      have hsz1 := hbw1.out.size
      have K1 : Hid ((encN (ns.take j)).flatten.length + (vb (zz x)).length ≤ maxLen) := Lib.hid (by have := hL1.out; have := hL2.out; unfold maxLen; omega)
      have K2 : Hid (((encN (ns.take j)).flatten.length + (vb (zz x)).length) * 1 ≤ 140737488355328) := Lib.hid (by have := hL1.out; have := hL2.out; omega)
      go_wp2_with (at_builtin; refine wpList_append_own _ rfl _ _ 23 rfl w.heap.size 5 i0 (.int .u8 0) 1 1 Try.underlying23 hi hz0 hz1 hz2 rfl (by decide) v _ (cells (encN (ns.take j)).flatten) rfl hown1.out ⟨g2, 0, none⟩ _ cap2 (cells (vb (zz x))) rfl (by rw [cells_len, Nat.mul_one]) hnews.out (cells_one _) K1.out K2.out hsz1 ?_; intro v' w2 hown' hgrow _; have hown2 := Lib.hid (own_join hown'); have hbw2 := Lib.hid (hbw1.out.grown hgrow hsz1 (fun k hk => own_ge hown1.out hk)); clear hown' hgrow)
      go_roundw
      case rel => exact ⟨j + 1, _, rfl, by go_num, by omega, Lib.hid (by rw [HE.out trivial]; exact hown2.out), hbw2⟩
      case measure => simp [intOf]; omega
    · obtain rfl : p = j := by omega
      have HP0 : Hid (Own w.heap.size v ((encN ns).flatten ++ (encT ((us.map cutT).take 0)).flatten) wr) := Lib.hid (by
        have := hown.out
        rw [List.take_of_length_le (by rw [Hns.out trivial]; exact Nat.le_refl _)] at this
        simpa [encT] using this)
      have hLN : Hid ((encN ns).flatten.length ≤ 300) := Lib.hid (Nat.le_trans (encN_len _ HI.out) (by rw [Hns.out trivial]; omega))
      clear hown
      go_wp2_with fail
      go_loopw [7, 9] (fun b i wr => ∃ (j : Nat) (v : Value), v = b ∧ i = .int .i64 (j : Int) ∧ j ≤ q ∧ Hid (Own w.heap.size v ((encN ns).flatten ++ (encT ((us.map cutT).take j)).flatten) wr) ∧ Hid (Below w.heap.size w wr)) (fun _ i _ => q - (intOf i).toNat)
      case atStart => exact ⟨0, _, rfl, rfl, by omega, HP0, hbel⟩
      case round =>
        obtain ⟨j, v2, rfl, rfl, hjq, hown, hbel⟩ := hrel
        clear HP0
        by_cases hj : j < q
        · obtain ⟨g, o, rfl, hcs⟩ := HSS.out _ hbel.out (by rw [Hus.out trivial]; omega)
          have hcell := hcs j (by rw [Hus.out trivial]; exact hj)
          have hjl : Hid (j < us.length) := Lib.hid (by rw [Hus.out trivial]; exact hj)
          have HS2 : Hid (∀ W, Below w.heap.size wr W → W.cell? ⟨g, o + j, none⟩ = some (.string (us.getD j ByteArray.empty))) := Lib.hid fun W hb => by
            obtain ⟨g', o', e1, q1⟩ := HSS.out _ (hbel.out.trans hb) (by rw [Hus.out trivial]; omega)
            cases e1
            exact q1 j hjl.out
          obtain ⟨m, hmin, hmt, hext⟩ := cutT_of (us.getD j ByteArray.empty)
          have htm : (us.getD j ByteArray.empty).size ≤ 9223372036854775807 := by
            have e : us.getD j ByteArray.empty = us[j]'hjl.out := by simp [List.getD, hjl.out]
            rw [e]
            have := HUs.out _ (List.getElem_mem hjl.out)
            unfold maxLen at this; omega
          have HE : Hid (True → (encT ((us.map cutT).take (j + 1))).flatten = (encT ((us.map cutT).take j)).flatten ++ wT (cutT (us.getD j ByteArray.empty))) := Lib.hid fun _ => by
            rw [encT_snoc _ j (by rw [List.length_map]; exact hjl.out), map_cut_get us j hjl.out]
          have hL1 : Hid ((encT ((us.map cutT).take j)).flatten.length ≤ 210 * 30) := Lib.hid (Nat.le_trans (encT_len _ fun t ht => by
            obtain ⟨u, _, rfl⟩ := List.mem_map.1 (List.mem_of_mem_take ht); exact cutT_size u) (by rw [List.length_take, List.length_map, Hus.out trivial]; omega))
          generalize us.getD j ByteArray.empty = x at *
          obtain ⟨c, hc⟩ : ∃ c, cutT x = c := ⟨_, rfl⟩
          have hc200 : Hid (c.size ≤ 200) := Lib.hid (by rw [← hc]; exact cutT_size x)
          rw [hc] at hext HE
          have HN := Lib.hid (fun W => str_app c hc200.out W)
          have hL2 : Hid ((wT c).length ≤ 210) := Lib.hid (by
            unfold wT
            rw [List.length_append, bytesOf_len]
            have := vb_ten (zz (c.size : Int)) (zz_lt _ (by omega) (by have := hc200.out; omega))
            have := hc200.out
            omega)
          have hmi : (m : Int) ≤ (x.size : Int) := by omega
          have i1 : (0 : Int) ≤ (j : Int) := by omega
          have i2 : (j : Int) < (q : Int) := by omega
          have hsz := hbel.out.size
          have K1 : Hid (((encN ns).flatten ++ (encT ((us.map cutT).take j)).flatten).length + (wT c).length ≤ maxLen) := Lib.hid (by have := hL1.out; have := hL2.out; have := hLN.out; rw [List.length_append]; unfold maxLen; omega)
          have K2 : Hid ((((encN ns).flatten ++ (encT ((us.map cutT).take j)).flatten).length + (wT c).length) * 1 ≤ 140737488355328) := Lib.hid (by have := hL1.out; have := hL2.out; have := hLN.out; rw [List.length_append]; omega)
          obtain ⟨l, hl⟩ : ∃ l, (encN ns).flatten ++ (encT ((us.map cutT).take j)).flatten = l := ⟨_, rfl⟩
          have HLl : Hid (True → (encN ns).flatten ++ (encT ((us.map cutT).take j)).flatten = l) := Lib.hid fun _ => hl
          rw [hl] at hown K1 K2
          clear hcs hc hl
          go_wp2_with fail
          go_region_held3 (fun W => W.cell? ⟨g, o + j, none⟩ = some (.string x))
            (first | exact HS2.out _ hb2.out | exact HS2.out _ hb1.out | exact HS2.out _ ((Below.refl _ wr).drew))
            (first
              | (go_at_call 11; refine (HN.out _).mono ?_; rintro e w1 ⟨g2, cap2, rfl, hnews, hb1'⟩; have hb1 : Hid (Below w.heap.size wr w1) := Lib.hid (((Below.refl _ wr).drew).trans (hb1'.out.mono hsz)); have hown1 := Lib.hid (own_later hown.out (((Below.refl _ wr).drew).trans hb1'.out)))
              | (refine step_append_lies _ (by rfl) (.tmp 46) (.tmp 58) _ (by rfl) w.heap.size 5 i0 (.int .u8 0) 1 1 Try.underlying23 hi hz0 hz1 hz2 rfl (by omega) v2 _ (cells l) (by rfl) hown1.out ⟨g2, 0, none⟩ _ cap2 (cells (wT c)) (by rfl) (by rw [cells_len, Nat.mul_one]) hnews.out (cells_one _) (wT_pos c) K1.out K2.out (Nat.le_trans hsz hb1.out.size) w1.heap.size rfl ?_; intro gg cap w2 hown2' hgrow hat hlt; have hown2 := Lib.hid (own_join hown2'); have hb2 : Hid (Below w.heap.size wr w2) := Lib.hid (hb1.out.grown hgrow (Nat.le_trans hsz hb1.out.size) (fun k hk => own_ge hown1.out hk)); clear hown2' hgrow hat hlt))
          go_wp2_with fail
          go_roundw
          case rel => exact ⟨j + 1, _, rfl, by go_num, by omega, Lib.hid (by rw [HE.out trivial, ← List.append_assoc, HLl.out trivial]; exact hown2.out), Lib.hid (hbel.out.trans hb2.out)⟩
          case measure => simp [intOf]; omega
        · obtain rfl : q = j := by omega
          obtain ⟨F, hF⟩ : ∃ F, (encN ns).flatten ++ (encT (us.map cutT)).flatten = F := ⟨_, rfl⟩
          have HF : Hid (True → (encN ns).flatten ++ (encT (us.map cutT)).flatten = F) := Lib.hid fun _ => hF
          have hFo : Hid (Own w.heap.size v2 F wr) := Lib.hid (by
            have := hown.out
            rw [List.take_of_length_le (by rw [List.length_map, Hus.out trivial]; exact Nat.le_refl _), hF] at this
            exact this)
          have hFl : F.length ≤ 6600 := by
            have h1 := encT_len (us.map cutT) fun t ht => by obtain ⟨u, _, rfl⟩ := List.mem_map.1 ht; exact cutT_size u
            rw [List.length_map, Hus.out trivial] at h1
            have h2 := hLN.out
            rw [← hF, List.length_append]; omega
          have hFb : Hid (Bytes F) := Lib.hid (by rw [← hF]; exact bytes_append (encN_bytes _) (encT_bytes _))
          clear hF hown
          by_cases h0 : F.length = 0
          · obtain ⟨a, cap, rfl⟩ := own_form hFo.out
            rw [h0]
            go_wp2_with fail
            refine (wires_any _).mono ?_
            rintro e w3 ⟨rfl, hb3'⟩
            have hb3 := Lib.hid (chain2 hbel.out hb3')
            clear hb3' hFo
            go_wp2_with fail
            refine (wires_any _).mono ?_
            rintro e w4 ⟨rfl, hb4'⟩
            have hb4 := Lib.hid (chain2 hb3.out hb4')
            clear hb4'
            go_wp2_with fail
            go_ret
            exact ⟨rfl, hb4.out⟩
          · obtain ⟨gb, cap, rfl, hgb, hgl, hfc, hc63, hAt⟩ := own_at hFo.out (by omega)
            obtain ⟨f, hf⟩ : ∃ f, F.length = f := ⟨_, rfl⟩
            have Hf : Hid (True → F.length = f) := Lib.hid fun _ => hf
            rw [hf] at h0 hFl hfc ⊢
            obtain ⟨k, hk, hkf⟩ := mod_cut1 cut f (by omega) (by omega)
            have hfz : ((f : Int) == 0) = false := by simp; omega
            have hkc : (k : Int) ≤ (cap : Int) := by omega
            clear hf hFo
            go_wp2_with fail
            refine (wires_any _).mono ?_
            rintro e w3 ⟨rfl, hb3'⟩
            have hb3 := Lib.hid (chain2 hbel.out hb3')
            have hat3 := Lib.hid (at_later hAt hb3')
            have hg3 := Lib.hid (Nat.lt_of_lt_of_le hgl hb3'.size)
            clear hb3' hAt hgl hgb
            go_wp2_with fail
            rw [hk]
            clear hk
            go_loopw [11] (fun r wr => ∃ j : Nat, r = .int .i64 (j : Int) ∧ j ≤ 2 ∧ Hid (Below w.heap.size w wr) ∧ Hid (At wr gb 0 F) ∧ Hid (gb < wr.heap.size)) (fun r _ => 2 - (intOf r).toNat)
            case atStart => exact ⟨0, rfl, by omega, hb3, hat3, hg3⟩
            case round =>
              obtain ⟨j, rfl, hj2, hbo, hato, hgo⟩ := hrel
              clear hb3 hat3 hg3
              rcases (show j = 0 ∨ j = 1 ∨ j = 2 by omega) with rfl | rfl | rfl
              · obtain ⟨wo, rfl⟩ : ∃ wo : World, wo = wr := ⟨_, rfl⟩
                have HO := Lib.hid (open_m (some ⟨gb, 0, none⟩) cap f F (Hf.out trivial) (by omega) _ (Lib.hid (src_of_at hato.out)))
                go_wp2_with fail
                refine HO.out.mono ?_
                rintro e w4 ⟨g, rfl, hg4', hbox4', hb4⟩
                have hg4 := Lib.hid hg4'
                have hbox4 : Hid (Box w4 g ((encN (ns.drop 0)).flatten ++ (encT (us.map cutT)).flatten) 0) := Lib.hid (by rw [List.drop_zero, HF.out trivial]; exact hbox4'.out)
                clear HO hg4' hbox4'
                go_wp2_with fail
                go_loopw [13] (fun i wx => ∃ j : Nat, i = .int .i64 (j : Int) ∧ j ≤ p ∧ Hid (Box wx g ((encN (ns.drop j)).flatten ++ (encT (us.map cutT)).flatten) 0) ∧ Hid (Below wo.heap.size wo wx)) (fun i _ => p - (intOf i).toNat)
                case atStart => exact ⟨0, rfl, by omega, hbox4, hb4⟩
                case round =>
                  obtain ⟨j, rfl, hjp2, hbox, hbx⟩ := hrel
                  clear hbox4 hb4
                  by_cases hj : j < p
                  · have hbw := Lib.hid (chain2 hbo.out hbx.out)
                    have hLl : Hid (((vb (zz (ns.getD j 0))) ++ ((encN (ns.drop (j + 1))).flatten ++ (encT (us.map cutT)).flatten)).length ≤ 1000000) := Lib.hid (by
                      have h1 := encN_len (ns.drop (j + 1)) fun n hn => HI.out n (List.mem_of_mem_drop hn)
                      have h2 := encT_len (us.map cutT) fun t ht => by obtain ⟨u, _, rfl⟩ := List.mem_map.1 ht; exact cutT_size u
                      have h3 := vb_ten (zz (ns.getD j 0)) (zz_lt _ (getD_int HI.out j).1 (getD_int HI.out j).2)
                      rw [List.length_map, Hus.out trivial] at h2
                      rw [List.length_drop, Hns.out trivial] at h1
                      rw [List.length_append, List.length_append]; omega)
                    have hbox1 : Hid (Box wr g (vb (zz (ns.getD j 0)) ++ ((encN (ns.drop (j + 1))).flatten ++ (encT (us.map cutT)).flatten)) 0) := Lib.hid (by
                      have := hbox.out
                      rwa [encN_cons ns j (by rw [Hns.out trivial]; exact hj), List.append_assoc] at this)
                    have HN := Lib.hid (num_whole g (ns.getD j 0) (getD_int HI.out j) _ (bytes_append (encN_bytes _) (encT_bytes _)) hLl.out wr hbox1)
                    have HC : Hid (∀ W, Below g wr W → ∃ g1 o1, a0 = some ⟨g1, o1, none⟩ ∧ W.cell? ⟨g1, o1 + j, none⟩ = some (.int .i64 (ns.getD j 0))) := Lib.hid fun W hb => by
                      obtain ⟨g1, o1, e1, q1⟩ := HSI.out W (chain2 hbo.out (hbx.out.trans (hb.mono hg4.out))) (by rw [Hns.out trivial]; omega)
                      exact ⟨g1, o1, e1, q1 j (by rw [Hns.out trivial]; exact hj)⟩
                    obtain ⟨R, hR⟩ : ∃ R, (encN (ns.drop (j + 1))).flatten ++ (encT (us.map cutT)).flatten = R := ⟨_, rfl⟩
                    have HR : Hid (True → (encN (ns.drop (j + 1))).flatten ++ (encT (us.map cutT)).flatten = R) := Lib.hid fun _ => hR
                    rw [hR] at HN
                    generalize ns.getD j 0 = x at *
                    clear hbox hbox1 hLl hR
                    go_wp2_with fail
                    refine HN.out.mono ?_
                    rintro e w5 ⟨rfl, hbox5, hb5⟩
                    obtain ⟨g1, o1, rfl, hcell⟩ := HC.out w5 hb5.out
                    go_wp2_with fail
                    go_roundw
                    case rel => exact ⟨j + 1, by go_num, by omega, Lib.hid (by rw [HR.out trivial]; exact hbox5.out), Lib.hid (hbx.out.trans (hb5.out.mono hg4.out))⟩
                    case measure => simp [intOf]; omega
                  · obtain rfl : p = j := by omega
                    have hboxT : Hid (Box wr g (encT ((us.map cutT).drop 0)).flatten 0) := Lib.hid (by
                      have := hbox.out
                      rw [List.drop_of_length_le (by rw [Hns.out trivial]; exact Nat.le_refl _)] at this
                      rw [List.drop_zero]
                      simpa [encN] using this)
                    clear hbox
                    go_wp2_with fail
                    go_loopw [15] (fun i wx => ∃ j : Nat, i = .int .i64 (j : Int) ∧ j ≤ q ∧ Hid (Box wx g (encT ((us.map cutT).drop j)).flatten 0) ∧ Hid (Below wo.heap.size wo wx)) (fun i _ => q - (intOf i).toNat)
                    case atStart => exact ⟨0, rfl, by omega, hboxT, hbx⟩
                    case round =>
                      obtain ⟨j, rfl, hjq2, hbox, hbx⟩ := hrel
                      clear hboxT
                      by_cases hj : j < q
                      · have hjl : Hid (j < us.length) := Lib.hid (by rw [Hus.out trivial]; exact hj)
                        have hLl : Hid ((wT (cutT (us.getD j ByteArray.empty)) ++ (encT ((us.map cutT).drop (j + 1))).flatten).length ≤ 1000000) := Lib.hid (by
                          have h1 := encT_len ((us.map cutT).drop j) fun t ht => by obtain ⟨u, _, rfl⟩ := List.mem_map.1 (List.mem_of_mem_drop ht); exact cutT_size u
                          rw [encT_cons _ j (by rw [List.length_map]; exact hjl.out), map_cut_get us j hjl.out, List.length_drop, List.length_map, Hus.out trivial] at h1
                          omega)
                        have hbox1 : Hid (Box wr g (wT (cutT (us.getD j ByteArray.empty)) ++ (encT ((us.map cutT).drop (j + 1))).flatten) 0) := Lib.hid (by
                          have := hbox.out
                          rwa [encT_cons _ j (by rw [List.length_map]; exact hjl.out), map_cut_get us j hjl.out] at this)
                        have HN := Lib.hid (str_whole g (cutT (us.getD j ByteArray.empty)) (cutT_size _) _ (encT_bytes _) hLl.out wr hbox1)
                        have HC : Hid (∀ W, Below g wr W → ∃ g1 o1, b0 = some ⟨g1, o1, none⟩ ∧ W.cell? ⟨g1, o1 + j, none⟩ = some (.string (us.getD j ByteArray.empty))) := Lib.hid fun W hb => by
                          obtain ⟨g1, o1, e1, q1⟩ := HSS.out W (chain2 hbo.out (hbx.out.trans (hb.mono hg4.out))) (by rw [Hus.out trivial]; omega)
                          exact ⟨g1, o1, e1, q1 j hjl.out⟩
                        obtain ⟨m, hmin, hmt, hext⟩ := cutT_of (us.getD j ByteArray.empty)
                        have htm : (us.getD j ByteArray.empty).size ≤ 9223372036854775807 := by
                          have e : us.getD j ByteArray.empty = us[j]'hjl.out := by simp [List.getD, hjl.out]
                          rw [e]
                          have := HUs.out _ (List.getElem_mem hjl.out)
                          unfold maxLen at this; omega
                        obtain ⟨R, hR⟩ : ∃ R, (encT ((us.map cutT).drop (j + 1))).flatten = R := ⟨_, rfl⟩
                        have HR : Hid (True → (encT ((us.map cutT).drop (j + 1))).flatten = R) := Lib.hid fun _ => hR
                        rw [hR] at HN
                        generalize us.getD j ByteArray.empty = x at *
                        obtain ⟨c, hc⟩ : ∃ c, cutT x = c := ⟨_, rfl⟩
                        rw [hc] at hext HN
                        have hmi : (m : Int) ≤ (x.size : Int) := by omega
                        have i1 : (0 : Int) ≤ (j : Int) := by omega
                        have i2 : (j : Int) < (q : Int) := by omega
                        clear hbox hbox1 hLl hR hc
                        go_wp2_with fail
                        refine HN.out.mono ?_
                        rintro e w5 ⟨rfl, hbox5, hb5⟩
                        obtain ⟨g1, o1, rfl, hcell⟩ := HC.out w5 hb5.out
                        go_wp2_with fail
                        go_quiet (fail)
                        go_wp2_with fail
                        go_roundw
                        case rel => exact ⟨j + 1, by go_num, by omega, Lib.hid (by rw [HR.out trivial]; exact box_later hbox5.out (below_drewN (Below.refl _ w5) _)), Lib.hid (below_drewN (hbx.out.trans (hb5.out.mono hg4.out)) _)⟩
                        case measure => simp [intOf]; omega
                      · obtain rfl : q = j := by omega
                        have hboxE : Hid (Box wr g [] 0) := Lib.hid (by
                          have := hbox.out
                          rw [List.drop_of_length_le (by rw [List.length_map, Hus.out trivial]; exact Nat.le_refl _)] at this
                          simpa [encT] using this)
                        have HEn := Lib.hid (end_whole g wr hboxE)
                        clear hbox hboxE
                        go_wp2_with fail
                        refine HEn.out.mono ?_
                        rintro e w6 ⟨rfl, hb6⟩
                        have hb7 := Lib.hid (hbx.out.trans (hb6.out.mono hg4.out))
                        go_wp2_with fail
                        go_roundw
                        case rel => exact ⟨1, rfl, by omega, Lib.hid (chain2 hbo.out hb7.out), Lib.hid (at_later hato.out hb7.out), Lib.hid (Nat.lt_of_lt_of_le hgo.out hb7.out.size)⟩
                        case measure => simp [intOf]
              · obtain ⟨wo, rfl⟩ : ∃ wo : World, wo = wr := ⟨_, rfl⟩
                have HO := Lib.hid (open_m (some ⟨gb, 0, none⟩) cap f F (Hf.out trivial) (by omega) _ (Lib.hid (src_of_at hato.out)))
                have HO2 := Lib.hid (fun W (hb : Below wo.heap.size wo W) => open_m (some ⟨gb, 0, none⟩) cap k (F.take k) (by rw [List.length_take, Hf.out trivial]; omega) (by omega) W (Lib.hid (src_of_at (at_take (at_later hato.out hb) k))))
                go_wp2_with fail
                refine HO.out.mono ?_
                rintro e w3 ⟨g3, rfl, hg3, hbox3, hb3⟩
                clear hbox3 HO
                go_wp2_with fail
                refine (HO2.out w3 hb3.out).mono ?_
                rintro e w4 ⟨g, rfl, hg4', hbox4', hb4'⟩
                have hb4 := Lib.hid (chain2 hb3.out hb4'.out)
                have hg4 := Lib.hid (Nat.le_trans hb3.out.size hg4')
                have hbox4 : Hid (∃ L er, Box w4 g L er ∧ St L er ((encN (ns.drop 0)).flatten ++ (encT (us.map cutT)).flatten) ∧ Bytes L ∧ L.length ≤ 1000000) := Lib.hid ⟨_, _, hbox4'.out, .inr ⟨rfl, k, by rw [List.drop_zero, HF.out trivial], by rw [List.drop_zero, HF.out trivial, Hf.out trivial]; exact hkf⟩, bytes_take hFb.out k, by rw [List.length_take]; omega⟩
                clear HO2 hg4' hbox4' hb4' hb3 hg3
                go_wp2_with fail
                go_loopw [13] (fun i wx => ∃ j : Nat, i = .int .i64 (j : Int) ∧ j ≤ p ∧ Hid (∃ L er, Box wx g L er ∧ St L er ((encN (ns.drop j)).flatten ++ (encT (us.map cutT)).flatten) ∧ Bytes L ∧ L.length ≤ 1000000) ∧ Hid (Below wo.heap.size wo wx)) (fun i _ => p - (intOf i).toNat)
                case atStart => exact ⟨0, rfl, by omega, hbox4, hb4⟩
                case round =>
                  obtain ⟨j, rfl, hjp2, hbox, hbx⟩ := hrel
                  clear hbox4 hb4
                  by_cases hj : j < p
                  · obtain ⟨L, er, hbx1, hst1, hby1, hln1⟩ := hbox.out
                    have HN := Lib.hid (num_short g (ns.getD j 0) (getD_int HI.out j) L ((encN (ns.drop (j + 1))).flatten ++ (encT (us.map cutT)).flatten) er (bytes_append (encN_bytes _) (encT_bytes _)) hby1 hln1 (by rwa [encN_cons ns j (by rw [Hns.out trivial]; exact hj), List.append_assoc] at hst1) wr (Lib.hid hbx1))
                    clear hbox hbx1 hst1 hby1 hln1
                    go_wp2_with fail
                    refine HN.out.mono ?_
                    rintro e w5 ⟨n5, L5, er5, rfl, hbox5, hst5, hb5⟩
                    go_wp2_with fail
                    go_roundw
                    case rel => exact ⟨j + 1, by go_num, by omega, Lib.hid ⟨L5, er5, hbox5.out, hst5.out⟩, Lib.hid (hbx.out.trans (hb5.out.mono hg4.out))⟩
                    case measure => simp [intOf]; omega
                  · obtain rfl : p = j := by omega
                    have hboxT : Hid (∃ L er, Box wr g L er ∧ St L er (encT ((us.map cutT).drop 0)).flatten ∧ Bytes L ∧ L.length ≤ 1000000) := Lib.hid (by
                      obtain ⟨L, er, h1, h2, h3⟩ := hbox.out
                      rw [List.drop_of_length_le (by rw [Hns.out trivial]; exact Nat.le_refl _)] at h2
                      rw [List.drop_zero]
                      exact ⟨L, er, h1, by simpa [encN] using h2, h3⟩)
                    clear hbox
                    go_wp2_with fail
                    go_loopw [15] (fun i wx => ∃ j : Nat, i = .int .i64 (j : Int) ∧ j ≤ q ∧ Hid (∃ L er, Box wx g L er ∧ St L er (encT ((us.map cutT).drop j)).flatten ∧ Bytes L ∧ L.length ≤ 1000000) ∧ Hid (Below wo.heap.size wo wx)) (fun i _ => q - (intOf i).toNat)
                    case atStart => exact ⟨0, rfl, by omega, hboxT, hbx⟩
                    case round =>
                      obtain ⟨j, rfl, hjq2, hbox, hbx⟩ := hrel
                      clear hboxT
                      by_cases hj : j < q
                      · have hjl : Hid (j < us.length) := Lib.hid (by rw [Hus.out trivial]; exact hj)
                        obtain ⟨L, er, hbx1, hst1, hby1, hln1⟩ := hbox.out
                        have HN := Lib.hid (str_short g (cutT (us.getD j ByteArray.empty)) (cutT_size _) L (encT ((us.map cutT).drop (j + 1))).flatten er (encT_bytes _) hby1 hln1 (by rwa [encT_cons _ j (by rw [List.length_map]; exact hjl.out), map_cut_get us j hjl.out] at hst1) wr (Lib.hid hbx1))
                        clear hbox hbx1 hst1 hby1 hln1
                        go_wp2_with fail
                        refine HN.out.mono ?_
                        rintro e w5 ⟨s5, L5, er5, rfl, hbox5, hst5, hb5⟩
                        go_wp2_with fail
                        go_quiet (fail)
                        go_wp2_with fail
                        go_roundw
                        case rel => exact ⟨j + 1, by go_num, by omega, Lib.hid ⟨L5, er5, box_later hbox5.out (below_drewN (Below.refl _ w5) _), hst5.out⟩, Lib.hid (below_drewN (hbx.out.trans (hb5.out.mono hg4.out)) _)⟩
                        case measure => simp [intOf]; omega
                      · obtain rfl : q = j := by omega
                        obtain ⟨L, er, hbx1, hst1, _⟩ := hbox.out
                        have HEn := Lib.hid (end_short g L er (by
                          rw [List.drop_of_length_le (by rw [List.length_map, Hus.out trivial]; exact Nat.le_refl _)] at hst1
                          simpa [encT] using hst1) wr (Lib.hid hbx1))
                        clear hbox hbx1 hst1
                        go_wp2_with fail
                        refine HEn.out.mono ?_
                        rintro e w6 ⟨rfl, hb6⟩
                        have hb7 := Lib.hid (hbx.out.trans (hb6.out.mono hg4.out))
                        go_wp2_with fail
                        go_roundw
                        case rel => exact ⟨2, rfl, by omega, Lib.hid (chain2 hbo.out hb7.out), Lib.hid (at_later hato.out hb7.out), Lib.hid (Nat.lt_of_lt_of_le hgo.out hb7.out.size)⟩
                        case measure => simp [intOf]
              · go_wp2_with fail
                go_ret
                exact ⟨rfl, hbo.out⟩
theorem least30 (x : Nat) : ∃ p, p ≤ x ∧ p ≤ 30 ∧ (if (30 : Int) < (x : Int) then 30 else (x : Int)) = (p : Int) := by
  by_cases h : 30 < x
  · exact ⟨30, by omega, by omega, by rw [if_pos (by omega)]; rfl⟩
  · exact ⟨x, by omega, by omega, by rw [if_neg (by omega)]⟩
theorem bounds_int {n : Int} (h : (Lit.int .i64 n).wf = true) : IntOk n := by
  simp [Lit.wf, IntKind.min, IntKind.max, IntKind.signed, IntKind.bits] at h
  exact ⟨by omega, by omega⟩
theorem spot_none {w : World} {x : Addr} {v : Value} (h : w.cell? (x.add 0) = some v) : ∃ g o, x = ⟨g, o, none⟩ := by
  obtain ⟨g, o, s⟩ := x
  cases s with
  | none => exact ⟨g, o, rfl⟩
  | some s =>
    simp [World.cell?, Addr.add] at h
    split at h <;> cases h
theorem add_at (g o i : Nat) : (⟨g, o, none⟩ : Addr).add i = ⟨g, o + i, none⟩ := by unfold Addr.add; split <;> simp_all
theorem wireBack_walk (a0 : Option Addr) (len0 cap0 : Nat) (z0 : List Int) (a1 : Option Addr) (len1 cap1 : Nat) (z1 : List ByteArray) (a2 : Int) (w : World)
    (w0 : (a0 = none ∧ len0 = 0 ∧ cap0 = 0 ∧ z0 = []) ∨ ∃ x, a0 = some x ∧ len0 ≤ cap0 ∧ cap0 ≤ maxLen ∧ z0.length = cap0 ∧ (∀ i, i < z0.length → w.cell? (x.add i) = some (.int .i64 (z0.getD i 0))) ∧ ∀ n ∈ z0, (Lit.int .i64 n).wf = true)
    (w1 : (a1 = none ∧ len1 = 0 ∧ cap1 = 0 ∧ z1 = []) ∨ ∃ x, a1 = some x ∧ len1 ≤ cap1 ∧ cap1 ≤ maxLen ∧ z1.length = cap1 ∧ (∀ i, i < z1.length → w.cell? (x.add i) = some (.string (z1.getD i ByteArray.empty))) ∧ ∀ s ∈ z1, s.size ≤ maxLen) :
    Calls Try.prog 5 #[.slice a0 len0 cap0, .slice a1 len1 cap1, .int .i64 a2] w fun e w' => e = .returned (.bool true) ∧ Below w.heap.size w w' := by
  obtain ⟨p, hp0, hp, hmin0⟩ := least30 len0
  obtain ⟨q, hq0, hq, hmin1⟩ := least30 len1
  have h0 : len0 ≤ cap0 ∧ cap0 ≤ 9223372036854775807 ∧ ∃ ns : List Int, ns.length = p ∧ (∀ n ∈ ns, IntOk n) ∧ SrcI w a0 ns := by
    rcases w0 with ⟨rfl, rfl, rfl, rfl⟩ | ⟨x, rfl, h1, h2, h3, h4, h5⟩
    · exact ⟨by omega, by omega, [], by simp; omega, by simp, fun h => absurd h (by simp)⟩
    · refine ⟨h1, by unfold maxLen at h2; omega, z0.take p, by rw [List.length_take]; omega, fun n hn => bounds_int (h5 n (List.mem_of_mem_take hn)), fun hl => ?_⟩
      rw [List.length_take] at hl
      obtain ⟨g, o, rfl⟩ := spot_none (h4 0 (by omega))
      refine ⟨g, o, rfl, fun i hi => ?_⟩
      rw [List.length_take] at hi
      rw [← add_at, h4 i (by omega)]
      congr 2
      simp [List.getD, show i < p by omega]
  have h1 : len1 ≤ cap1 ∧ cap1 ≤ 9223372036854775807 ∧ ∃ us : List ByteArray, us.length = q ∧ (∀ t ∈ us, t.size ≤ maxLen) ∧ SrcS w a1 us := by
    rcases w1 with ⟨rfl, rfl, rfl, rfl⟩ | ⟨x, rfl, h1, h2, h3, h4, h5⟩
    · exact ⟨by omega, by omega, [], by simp; omega, by simp, fun h => absurd h (by simp)⟩
    · refine ⟨h1, by unfold maxLen at h2; omega, z1.take q, by rw [List.length_take]; omega, fun n hn => h5 n (List.mem_of_mem_take hn), fun hl => ?_⟩
      rw [List.length_take] at hl
      obtain ⟨g, o, rfl⟩ := spot_none (h4 0 (by omega))
      refine ⟨g, o, rfl, fun i hi => ?_⟩
      rw [List.length_take] at hi
      rw [← add_at, h4 i (by omega)]
      congr 2
      simp [List.getD, show i < q by omega]
  obtain ⟨hc0, hm0, ns, hns, hI, hSI⟩ := h0
  obtain ⟨hc1, hm1, us, hus, hT, hSS⟩ := h1
  exact back_mid a0 a1 len0 cap0 len1 cap1 p q hp0 hq0 hp hq hc0 hc1 hm0 hm1 hmin0 hmin1 a2 w ns us hns hus hI hT hSI hSS
end Go.Proofs.Ytagflocbcikenaa
