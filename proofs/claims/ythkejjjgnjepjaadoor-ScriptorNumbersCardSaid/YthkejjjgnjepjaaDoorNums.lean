/- The walk of ScriptorNumbers. -/
import Derived.Test.YthkejjjgnjepjaaDoorNumsT
import Derived.Test.YthkejjjgnjepjaaDoorReg
import Derived.StillTailTactics
namespace Go.Proofs.YthkejjjgnjepjaaDoor
open Go.ChangeShapes Go.WideShapes Go.ChangeAt Go.RowKit
set_option linter.unusedVariables false

set_option maxRecDepth 100000 in
set_option maxHeartbeats 20000000 in
theorem nums_mid (a0 b0 : Option Addr) (len0 cap0 len1 cap1 p q : Nat) (hp0 : p ≤ len0) (hq0 : q ≤ len1) (hp : p ≤ 20) (hq : q ≤ 20) (hc0 : len0 ≤ cap0) (hc1 : len1 ≤ cap1) (hm0 : cap0 ≤ 9223372036854775807) (hm1 : cap1 ≤ 9223372036854775807)
    (hmin0 : min (len0 : Int) 20 = (p : Int)) (hmin1 : min (len1 : Int) 20 = (q : Int)) (bit : Int) (w : World)
    (ns : List Int) (fs : List Nat) (hns : ns.length = p) (hfs : fs.length = q) (hF : ∀ x ∈ fs, x < 18446744073709551616) (hSI : Fw.SrcI w a0 ns) (hSU : SrcU w b0 fs) (hT : Tabs w) :
    Calls Tryd.prog 3 #[.slice a0 len0 cap0, .slice b0 len1 cap1, .int .i64 bit] w fun e w' => e = .returned (.bool true) ∧ Below w.heap.size w w' := by
  obtain ⟨i0, hi, hz0, hz1, hz2⟩ := info_parts Fw.info8
  have hpi : (p : Int) ≤ (cap0 : Int) := by omega
  have hqi : (q : Int) ≤ (cap1 : Int) := by omega
  have HSI : Hid (∀ W, Below w.heap.size w W → Fw.SrcI W a0 ns) := Lib.hid fun W hb => Fw.srcI_later hSI hb
  have HSU : Hid (∀ W, Below w.heap.size w W → SrcU W b0 fs) := Lib.hid fun W hb => srcU_later hSU hb
  have HT : Hid (∀ W, Below w.heap.size w W → Tabs W) := Lib.hid fun W hb => tabs_later hT hb
  have HF : Hid (∀ i, fs.getD i 0 < 18446744073709551616) := Lib.hid fun i => by
    by_cases h : i < fs.length
    · have e : fs.getD i 0 = fs[i] := by simp [List.getD, h]
      rw [e]; exact hF _ (List.getElem_mem h)
    · have e : fs.getD i 0 = 0 := by simp [List.getD, h]
      rw [e]; decide
  have Hns := Lib.hid (fun _ : True => hns)
  have Hfs := Lib.hid (fun _ : True => hfs)
  obtain ⟨A, hA⟩ : ∃ A, A = ns.map tI := ⟨_, rfl⟩
  obtain ⟨Bf, hBf⟩ : ∃ B, B = fs.map tF := ⟨_, rfl⟩
  have hAl : A.length = p := by rw [hA, List.length_map, hns]
  have hBl : Bf.length = q := by rw [hBf, List.length_map, hfs]
  have HAl := Lib.hid (fun _ : True => hAl)
  have HBl := Lib.hid (fun _ : True => hBl)
  have HAg : Hid (∀ j, j < p → A.getD j ByteArray.empty = tI (ns.getD j 0)) := Lib.hid fun j hj => by
    rw [hA]; simp [List.getD, show j < ns.length by omega]
  have HBg : Hid (∀ j, j < q → Bf.getD j ByteArray.empty = tF (fs.getD j 0)) := Lib.hid fun j hj => by
    rw [hBf]; simp [List.getD, show j < fs.length by omega]
  have HAs : Hid (∀ t ∈ A, t.size ≤ 20) := Lib.hid fun t ht => by
    rw [hA] at ht
    obtain ⟨n, _, rfl⟩ := List.mem_map.1 ht
    exact tI_size n
  have HBs : Hid (∀ t ∈ Bf, t.size ≤ 20) := Lib.hid fun t ht => by
    rw [hBf] at ht
    obtain ⟨n, _, rfl⟩ := List.mem_map.1 ht
    rw [tF_size]; decide
  clear hSI hSU hT hF hns hfs hA hBf hAl hBl
  have HAE : Hid ((enc A).length ≤ 600) := Lib.hid (Nat.le_trans (enc_len A HAs.out) (by rw [HAl.out trivial]; omega))
  have HBE : Hid ((enc Bf).length ≤ 600) := Lib.hid (Nat.le_trans (enc_len Bf HBs.out) (by rw [HBl.out trivial]; omega))
  have HAt : Hid (∀ j, (enc (A.take j)).length ≤ 600) := Lib.hid fun j => Nat.le_trans (enc_len _ fun t ht => HAs.out t (List.mem_of_mem_take ht)) (by rw [List.length_take, HAl.out trivial]; omega)
  have HBt : Hid (∀ j, (enc (Bf.take j)).length ≤ 600) := Lib.hid fun j => Nat.le_trans (enc_len _ fun t ht => HBs.out t (List.mem_of_mem_take ht)) (by rw [List.length_take, HBl.out trivial]; omega)
  go_enter Tryd.func3, Tryd.ntmps3
  go_wp2_with fail
  go_quiet (fail)
  clear hmin0 hmin1 hpi hqi
  have HW0 : Hid (Below w.heap.size w (w.drewN nq)) := Lib.hid (Fw.below_drewN (Below.refl _ w) nq)
  go_wp2_with fail
  go_loopw [7, 8] (fun b i wr => ∃ (j : Nat) (v : Value), v = b ∧ i = .int .i64 (j : Int) ∧ j ≤ p ∧ Hid (Fw.Own w.heap.size v (enc (A.take j)) wr) ∧ Hid (Below w.heap.size w wr)) (fun _ i _ => p - (intOf i).toNat)
  case atStart => exact ⟨0, _, rfl, rfl, by omega, Lib.hid (World.ownsRow_nil _ _ _ _), HW0⟩
  case round =>
    obtain ⟨j, v, rfl, rfl, hjp, hown, hbel⟩ := hrel
    clear HW0
    by_cases hj : j < p
    · obtain ⟨g, o, rfl, hcs⟩ := HSI.out _ hbel.out (by rw [Hns.out trivial]; omega)
      have hcell := hcs j (by rw [Hns.out trivial]; exact hj)
      have HE : Hid (True → enc (A.take (j + 1)) = enc (A.take j) ++ Fw.wT (tI (ns.getD j 0))) := Lib.hid fun _ => by rw [take_next A ByteArray.empty j (by rw [HAl.out trivial]; exact hj), enc_snoc, HAg.out j hj]
      have hL1 := Lib.hid (HAt.out j)
      generalize ns.getD j 0 = x at *
      have hL2 := Lib.hid (wT_len (tI x) (tI_size x))
      have HX := Lib.hid (text_ti x wr (HT.out _ hbel.out))
      have HS := Lib.hid (str_enc (tI x) (tI_size x))
      generalize tI x = t at *
      clear hcs
      go_wp2_with fail
      refine HX.out.mono ?_
      rintro e w1 ⟨rfl, hb1⟩
      go_wp2_with fail
      refine (HS.out w1).mono ?_
      rintro e w2 ⟨g2, cap2, rfl, hnews, hb2⟩
      have hb12 := Lib.hid (Fw.chain2 hb1.out hb2.out)
      have hown1 := Lib.hid (Fw.own_later hown.out hb12.out)
      have hbw1 := Lib.hid (Fw.chain2 hbel.out hb12.out)
      have hsz1 := hbw1.out.size
      have K1 : Hid ((enc (A.take j)).length + (Fw.wT t).length ≤ maxLen) := Lib.hid (by have := hL1.out; have := hL2.out; unfold maxLen; omega)
      have K2 : Hid (((enc (A.take j)).length + (Fw.wT t).length) * 1 ≤ 140737488355328) := Lib.hid (by have := hL1.out; have := hL2.out; omega)
      go_wp2_with (at_builtin; refine wpList_append_own _ rfl _ _ 24 rfl w.heap.size 5 i0 (.int .u8 0) 1 1 Tryd.underlying24 hi hz0 hz1 hz2 rfl (by decide) v _ (Fw.cells (enc (A.take j))) rfl hown1.out ⟨g2, 0, none⟩ _ cap2 (Fw.cells (Fw.wT t)) rfl (by rw [Fw.cells_len, Nat.mul_one]) hnews.out (Fw.cells_one _) K1.out K2.out hsz1 ?_; intro v' w3 hown' hgrow _; have hown2 := Lib.hid (Fw.own_join hown'); have hbw2 := Lib.hid (hbw1.out.grown hgrow hsz1 (fun k hk => Fw.own_ge hown1.out hk)); clear hown' hgrow)
      go_roundw
      case rel => exact ⟨j + 1, _, rfl, by go_num, by omega, Lib.hid (by rw [HE.out trivial]; exact hown2.out), hbw2⟩
      case measure => simp [intOf]; omega
    · obtain rfl : p = j := by omega
      have HP0 : Hid (Fw.Own w.heap.size v (enc A ++ enc (Bf.take 0)) wr) := Lib.hid (by
        have := hown.out
        rw [List.take_of_length_le (by rw [HAl.out trivial]; exact Nat.le_refl _)] at this
        simpa [enc] using this)
      clear hown
      go_wp2_with fail
      go_loopw [7, 9] (fun b i wr => ∃ (j : Nat) (v : Value), v = b ∧ i = .int .i64 (j : Int) ∧ j ≤ q ∧ Hid (Fw.Own w.heap.size v (enc A ++ enc (Bf.take j)) wr) ∧ Hid (Below w.heap.size w wr)) (fun _ i _ => q - (intOf i).toNat)
      case atStart => exact ⟨0, _, rfl, rfl, by omega, HP0, hbel⟩
      case round =>
        obtain ⟨j, v, rfl, rfl, hjq, hown, hbel⟩ := hrel
        clear HP0
        by_cases hj : j < q
        · obtain ⟨g, o, rfl, hcs⟩ := HSU.out _ hbel.out (by rw [Hfs.out trivial]; omega)
          have hcell := hcs j (by rw [Hfs.out trivial]; exact hj)
          have hxl := Lib.hid (HF.out j)
          have HE : Hid (True → enc A ++ enc (Bf.take (j + 1)) = (enc A ++ enc (Bf.take j)) ++ Fw.wT (tF (fs.getD j 0))) := Lib.hid fun _ => by rw [take_next Bf ByteArray.empty j (by rw [HBl.out trivial]; exact hj), enc_snoc, HBg.out j hj, List.append_assoc]
          have hL1 : Hid ((enc A ++ enc (Bf.take j)).length ≤ 1200) := Lib.hid (by rw [List.length_append]; have := HAE.out; have := HBt.out j; omega)
          generalize fs.getD j 0 = x at *
          have hL2 := Lib.hid (wT_len (tF x) (by rw [tF_size]; decide))
          have HX := Lib.hid (fun W => bits_tf x hxl.out W)
          have HS := Lib.hid (str_enc (tF x) (by rw [tF_size]; decide))
          generalize tF x = t at *
          clear hcs
          go_wp2_with fail
          refine (Fn.go_any x _).mono ?_
          rintro e w' ⟨rfl, rfl⟩
          go_wp2_with fail
          refine (Fn.of_any x _).mono ?_
          rintro e w' ⟨rfl, rfl⟩
          go_wp2_with fail
          refine (HX.out _).mono ?_
          rintro e w1 ⟨rfl, hb1⟩
          go_wp2_with fail
          refine (HS.out w1).mono ?_
          rintro e w2 ⟨g2, cap2, rfl, hnews, hb2⟩
          have hb12 := Lib.hid (Fw.chain2 hb1.out hb2.out)
          have hown1 := Lib.hid (Fw.own_later hown.out hb12.out)
          have hbw1 := Lib.hid (Fw.chain2 hbel.out hb12.out)
          have hsz1 := hbw1.out.size
          have K1 : Hid ((enc A ++ enc (Bf.take j)).length + (Fw.wT t).length ≤ maxLen) := Lib.hid (by have := hL1.out; have := hL2.out; unfold maxLen; omega)
          have K2 : Hid (((enc A ++ enc (Bf.take j)).length + (Fw.wT t).length) * 1 ≤ 140737488355328) := Lib.hid (by have := hL1.out; have := hL2.out; omega)
          obtain ⟨LL, hLL⟩ : ∃ LL, enc A ++ enc (Bf.take j) = LL := ⟨_, rfl⟩
          rw [hLL] at K1 K2 hown1 HE
          clear hLL hL1 hown
          go_wp2_with (at_builtin; refine wpList_append_own _ rfl _ _ 24 rfl w.heap.size 5 i0 (.int .u8 0) 1 1 Tryd.underlying24 hi hz0 hz1 hz2 rfl (by decide) v _ (Fw.cells LL) rfl hown1.out ⟨g2, 0, none⟩ _ cap2 (Fw.cells (Fw.wT t)) rfl (by rw [Fw.cells_len, Nat.mul_one]) hnews.out (Fw.cells_one _) K1.out K2.out hsz1 ?_; intro v' w3 hown' hgrow _; have hown2 := Lib.hid (Fw.own_join hown'); have hbw2 := Lib.hid (hbw1.out.grown hgrow hsz1 (fun k hk => Fw.own_ge hown1.out hk)); clear hown' hgrow)
          go_roundw
          case rel => exact ⟨j + 1, _, rfl, by go_num, by omega, Lib.hid (by rw [HE.out trivial]; exact hown2.out), hbw2⟩
          case measure => simp [intOf]; omega
        · obtain rfl : q = j := by omega
          obtain ⟨L, hLdef⟩ : ∃ L, enc A ++ enc Bf = L := ⟨_, rfl⟩
          have HLd := Lib.hid (fun _ : True => hLdef)
          have hO2 : Fw.Own w.heap.size v L wr := by
            have := hown.out
            rw [List.take_of_length_le (by rw [HBl.out trivial]; exact Nat.le_refl _), hLdef] at this
            exact this
          have hLb : ∀ b ∈ L, b < 256 := by rw [← hLdef, ← enc_app]; exact enc_bytes _
          have hLl : L.length ≤ 1200 := by rw [← hLdef, List.length_append]; have := HAE.out; have := HBE.out; omega
          obtain ⟨m, hm⟩ : ∃ m, L.length = m := ⟨_, rfl⟩
          rw [hm] at hLl
          obtain ⟨sp, cpb, hv⟩ : ∃ sp c, v = .slice sp m c := by
            obtain ⟨a, c, e⟩ := Fw.own_form hO2
            exact ⟨a, c, by rw [e, hm]⟩
          subst hv
          have HCl := Lib.hid (Fc.close_m sp cpb m L hm (by omega) hLb wr (Lib.hid (HT.out _ hbel.out).2) (Lib.hid (own_crc hO2).2))
          have HLb := Lib.hid hLb
          have HLm := Lib.hid (fun _ : True => hm)
          clear hown hO2 hLdef hLb hm
          go_wp2_with fail
          refine HCl.out.mono ?_
          clear HCl
          rintro e w1 ⟨gc, rfl, hgc, hrc, hb1⟩
          have hbw1 := Lib.hid (Fw.chain2 hbel.out hb1.out)
          have hgcw : Hid (w.heap.size ≤ gc) := Lib.hid (Nat.le_trans hbel.out.size hgc.out)
          clear hbel hb1 hgc
          go_wp2_with fail
          refine (stands_any _).mono ?_
          rintro e w' ⟨rfl, rfl⟩
          obtain ⟨C, hC⟩ : ∃ C, L ++ Fc.four (Fc.crcOf L) = C := ⟨_, rfl⟩
          have hCl : C.length = m + 4 := by rw [← hC, List.length_append, HLm.out trivial]; rfl
          have hCb : ∀ b ∈ C, b < 256 := by
            intro b hb
            rw [← hC] at hb
            rcases List.mem_append.1 hb with h | h
            · exact HLb.out b h
            · exact Fc.four_byte _ b h
          have hCO : Fc.Opens C := by rw [← hC]; exact Fc.opens_closed L
          have hCt : C.take m = L := by rw [← hC, ← HLm.out trivial, List.take_left]
          rw [hC] at hrc
          have hsz0 : w1.heap.size ≤ (w1.alloc (Obj.cells #[] 5)).heap.size := by simp
          have hal1 : Below w1.heap.size w1 (w1.alloc (Obj.cells #[] 5)) := (Below.refl _ _).alloc (Nat.le_refl _) _
          have hnC : Hid (∀ j u, (Fw.cells C)[j]? = some u → (w1.alloc (Obj.cells #[] 5)).cell? ((⟨gc, 0, none⟩ : Addr).add j) = some u) := Lib.hid fun j u hu => by
            have hjl : j < C.length := by
              have := (List.getElem?_eq_some_iff.1 hu).1
              rwa [Fw.cells_len] at this
            rw [Fw.add_at0, Fc.row_byte (Fc.row_later hrc.out hal1) j hjl]
            simp [Fw.cells, hjl] at hu
            rw [← hu]; simp [List.getD, hjl]
          have HCl := Lib.hid (fun _ : True => hCl)
          have HCb := Lib.hid hCb
          have HCO := Lib.hid hCO
          have HCt := Lib.hid (fun _ : True => hCt)
          have Hal1 := Lib.hid hal1
          have K3 := Lib.hid hsz0
          have K1 : Hid (0 + (m + 4) ≤ maxLen) := Lib.hid (by unfold maxLen; omega)
          have K2 : Hid ((0 + (m + 4)) * 1 ≤ 140737488355328) := Lib.hid (by omega)
          have K4 : Hid ((w1.alloc (Obj.cells #[] 5)).ownsRow w1.heap.size 5 1 (.slice (some ⟨w1.heap.size, 0, none⟩) 0 0) 0 []) := Lib.hid ⟨rfl, .inr ⟨w1.heap.size, 0, #[], rfl, Nat.le_refl _, Array.getElem?_push_size, Nat.zero_le _, by decide, rfl, rfl⟩⟩
          clear hC hCl hCb hCO hCt hsz0 hal1
          go_wp2_with (at_builtin; refine wpList_append_own _ rfl _ _ 24 rfl w1.heap.size 5 i0 (.int .u8 0) 1 1 Tryd.underlying24 hi hz0 hz1 hz2 rfl (by decide) (.slice (some ⟨w1.heap.size, 0, none⟩) 0 0) 0 [] rfl K4.out ⟨gc, 0, none⟩ (m + 4) (m + 4) (Fw.cells C) rfl (by rw [Fw.cells_len, Nat.mul_one, HCl.out trivial]) hnC.out (Fw.cells_one _) K1.out K2.out K3.out ?_; intro v' w3 hown' hgrow _; obtain ⟨gd, capd, hvd, hgd, hcd1, hcd2, hrd'⟩ := own_row hown' (HCl.out trivial) (by omega); subst hvd; have hrd := Lib.hid hrd'; have hgdd := Lib.hid hgd; clear hgd hrd'; have hb3 := Lib.hid (Hal1.out.grown hgrow K3.out (fun k hk => Fw.own_ge K4.out hk)); clear hown' hgrow)
          have hbw3 := Lib.hid (Fw.chain2 hbw1.out hb3.out)
          have hgw : Hid (w.heap.size ≤ gd) := Lib.hid (Nat.le_trans hbw1.out.size hgdd.out)
          have hrc3 := Lib.hid (Fc.row_later hrc.out hb3.out)
          have hcd : Hid (gc ≠ gd) := Lib.hid (by have := Fc.row_lt hrc.out; have := hgdd.out; omega)
          have HF0 : Fc.Flipped C 0 1 0 gd capd w.heap.size w w3 := ⟨C, rfl, HCb.out, by rw [Nat.pow_zero, Nat.mod_one, Nat.mul_zero, Nat.xor_zero], hrd.out, hbw3.out⟩
          obtain ⟨k, hk, hkl⟩ := Fc.mod_bits bit m (by omega)
          have HFk : Fc.Flipped C k 1 0 gd capd w.heap.size w w3 := ⟨C, rfl, HCb.out, by rw [Nat.pow_zero, Nat.mod_one, Nat.mul_zero, Nat.xor_zero], hrd.out, hbw3.out⟩
          obtain ⟨d, hd, hcell, hfree, hF1⟩ := Fc.flip_one HFk (by decide) (by rw [HCl.out trivial]; omega) hgw.out
          simp only [Nat.add_zero] at hcell hfree hF1
          have HF1 := Lib.hid hF1
          have hrc4 : Hid (∀ u, Fc.Row (w3.setCell ⟨gd, k / 8, none⟩ u) gc (m + 4) C) := Lib.hid fun u => by
            obtain ⟨cur, q1, q2, q3, q4⟩ := hrc3.out
            exact ⟨cur, (Below.heap_setCell _ ⟨gd, k / 8, none⟩ _ _ hcd.out).trans q1, q2, q3, q4⟩
          have hix0 : (0 : Int) ≤ (k : Int) / 8 := by omega
          have hix1 : (k : Int) / 8 < (m : Int) + 4 := by omega
          have hX := Lib.hid (fun _ : True => Fc.flip_val d k hd)
          have hkb : (k : Int) < 8 * ((m : Int) + 4) := by omega
          clear HF0 HFk hF1 hrc hrd hb3 hnC K1 K2 K3 K4 Hal1
          obtain ⟨c8, hc8⟩ : ∃ c8, k / 8 = c8 := ⟨_, rfl⟩
          obtain ⟨r8, hr8⟩ : ∃ r8, k % 8 = r8 := ⟨_, rfl⟩
          simp only [hc8] at hcell hfree HF1 hrc4
          simp only [hr8] at HF1 hX
          go_wp2_with fail
          try rw [hk]
          clear hk
          let U : Nat → World → Prop := fun jX W => match jX with | 0 => True | 1 => True | 2 => True | 3 => True | 4 => W.cell? ⟨gd, c8, none⟩ = some (.int .u8 (d : Int)) | 5 => True | 6 => True | 7 => True | 8 => True | 9 => True | 10 => W.cell? ⟨gd, c8, none⟩ = some (.int .u8 (d : Int)) ∧ W.frozen? ⟨gd, c8, none⟩ = false ∧ (Fc.Flipped C k 1 1 gd capd w.heap.size w (W.setCell ⟨gd, c8, none⟩ (.int .u8 ((d ^^^ 2 ^ r8 : Nat) : Int))) ∧ Fc.Row (W.setCell ⟨gd, c8, none⟩ (.int .u8 ((d ^^^ 2 ^ r8 : Nat) : Int))) gc (m + 4) C) | _ => True
          let R : Nat → World → World → Prop := fun jX W W2 => match jX with | 0 => W = W2 | 1 => W = W2 | 2 => W = W2 | 3 => W = W2 | 4 => W = W2 | 5 => W = W2 | 6 => W = W2 | 7 => W = W2 | 8 => W = W2 | 9 => W = W2 | 10 => Below w.heap.size W W2 | _ => W = W2
          let V : Nat → Value → World → Prop := fun jX v W => match jX with | 0 => v = .slice (some ⟨gd, 0, none⟩) (m + 4) capd | 1 => v = .int .i64 (k : Int) | 2 => v = .int .i64 (c8 : Int) | 3 => v = .pointer (some ⟨gd, c8, none⟩) | 4 => v = .int .u8 (d : Int) | 5 => v = .int .i64 (k : Int) | 6 => v = .int .i64 (r8 : Int) | 7 => v = .int .u8 (2 ^ r8 % 256) | 8 => v = .int .u8 ((d ^^^ 2 ^ r8 : Nat) : Int) | 9 => v = .pointer (some ⟨gd, c8, none⟩) | 10 => v = undef ∧ (Fc.Flipped C k 1 1 gd capd w.heap.size w W ∧ Fc.Row W gc (m + 4) C) | _ => True
          refine wp_region_fill3 (by kernel_rfl) U V (fun W => Below w.heap.size w W) R (by kernel_rfl) (by kernel_rfl) (hbw3.out.trans ((Below.refl _ _).drew)) ?_ ?_ ?_ ?_ ?_ ?_
          · intro jX
            match jX with
            | 0 => exact trivial
            | 1 => exact trivial
            | 2 => exact trivial
            | 3 => exact trivial
            | 4 => exact hcell
            | 5 => exact trivial
            | 6 => exact trivial
            | 7 => exact trivial
            | 8 => exact trivial
            | 9 => exact trivial
            | 10 => exact ⟨hcell, hfree, Fc.flipped_drew HF1.out, hrc4.out _⟩
            | nX + 11 => exact trivial
          · intro iX W W2 hr hi
            match iX, hr with
            | 0, hr => exact (show W = W2 from hr) ▸ hi
            | 1, hr => exact (show W = W2 from hr) ▸ hi
            | 2, hr => exact (show W = W2 from hr) ▸ hi
            | 3, hr => exact (show W = W2 from hr) ▸ hi
            | 4, hr => exact (show W = W2 from hr) ▸ hi
            | 5, hr => exact (show W = W2 from hr) ▸ hi
            | 6, hr => exact (show W = W2 from hr) ▸ hi
            | 7, hr => exact (show W = W2 from hr) ▸ hi
            | 8, hr => exact (show W = W2 from hr) ▸ hi
            | 9, hr => exact (show W = W2 from hr) ▸ hi
            | 10, hr => exact hi.trans hr
            | nX + 11, hr => exact (show W = W2 from hr) ▸ hi
          · intro iX jX W W2 hij hord hi hui hr h
            match iX, hij, hord, hui, hr with
            | 0, hij, hord, hui, hr => exact (show W = W2 from hr) ▸ h
            | 1, hij, hord, hui, hr => exact (show W = W2 from hr) ▸ h
            | 2, hij, hord, hui, hr => exact (show W = W2 from hr) ▸ h
            | 3, hij, hord, hui, hr => exact (show W = W2 from hr) ▸ h
            | 4, hij, hord, hui, hr => exact (show W = W2 from hr) ▸ h
            | 5, hij, hord, hui, hr => exact (show W = W2 from hr) ▸ h
            | 6, hij, hord, hui, hr => exact (show W = W2 from hr) ▸ h
            | 7, hij, hord, hui, hr => exact (show W = W2 from hr) ▸ h
            | 8, hij, hord, hui, hr => exact (show W = W2 from hr) ▸ h
            | 9, hij, hord, hui, hr => exact (show W = W2 from hr) ▸ h
            | 10, hij, hord, hui, hr =>
              match jX, hij, hord, h with
              | 0, hij, hord, h => exact h
              | 1, hij, hord, h => exact h
              | 2, hij, hord, h => exact h
              | 3, hij, hord, h => exact h
              | 4, hij, hord, h => exact absurd rfl (hord _ rfl ⟨4, .phase⟩ (by simp) rfl)
              | 5, hij, hord, h => exact h
              | 6, hij, hord, h => exact h
              | 7, hij, hord, h => exact h
              | 8, hij, hord, h => exact h
              | 9, hij, hord, h => exact h
              | 10, hij, hord, h => exact absurd rfl hij
              | nX + 11, hij, hord, h => exact h
            | nX + 11, hij, hord, hui, hr => exact (show W = W2 from hr) ▸ h
          · intro iX jX v W W2 hij hi hui hr h
            match iX, hij, hui, hr with
            | 0, hij, hui, hr => exact (show W = W2 from hr) ▸ h
            | 1, hij, hui, hr => exact (show W = W2 from hr) ▸ h
            | 2, hij, hui, hr => exact (show W = W2 from hr) ▸ h
            | 3, hij, hui, hr => exact (show W = W2 from hr) ▸ h
            | 4, hij, hui, hr => exact (show W = W2 from hr) ▸ h
            | 5, hij, hui, hr => exact (show W = W2 from hr) ▸ h
            | 6, hij, hui, hr => exact (show W = W2 from hr) ▸ h
            | 7, hij, hui, hr => exact (show W = W2 from hr) ▸ h
            | 8, hij, hui, hr => exact (show W = W2 from hr) ▸ h
            | 9, hij, hui, hr => exact (show W = W2 from hr) ▸ h
            | 10, hij, hui, hr =>
              match jX, hij, h with
              | 0, hij, h => exact h
              | 1, hij, h => exact h
              | 2, hij, h => exact h
              | 3, hij, h => exact h
              | 4, hij, h => exact h
              | 5, hij, h => exact h
              | 6, hij, h => exact h
              | 7, hij, h => exact h
              | 8, hij, h => exact h
              | 9, hij, h => exact h
              | 10, hij, h => exact absurd rfl hij
              | nX + 11, hij, h => exact h
            | nX + 11, hij, hui, hr => exact (show W = W2 from hr) ▸ h
          · intro iX o ho a W hN hi hui h
            have q1 : (k : Int).tdiv 8 = (c8 : Int) := by rw [Int.tdiv_eq_ediv_of_nonneg (by omega)]; omega
            have q3 : (k : Int).tmod 8 = (r8 : Int) := by rw [Int.tmod_eq_emod_of_nonneg (by omega)]; omega
            have q2 : (k : Int) / 8 = (c8 : Int) := by omega
            have q6 : (k : Int) % 8 = (r8 : Int) := by omega
            have q4 : IntKind.i64.wrap (c8 : Int) = (c8 : Int) := by rw [IntKind.wrap_i64]; omega
            have q5 : IntKind.i64.wrap (r8 : Int) = (r8 : Int) := by rw [IntKind.wrap_i64]; omega
            have q8 : (0 : Int) ≤ (c8 : Int) := by omega
            have q9 : (c8 : Int) < (m : Int) + 4 := by omega
            clear hc8 hr8
            match iX, ho, hui with
            | 0, ho, hui =>
              obtain rfl := Option.some.inj (show some _ = some o from ho)
              have e11 : a.eval (.tmp 11) = .slice (some ⟨gd, 0, none⟩) (m + 4) capd := hN.eval 11 (by kernel_rfl)
              refine fill_value (v := .slice (some ⟨gd, 0, none⟩) (m + 4) capd) ho rfl (by rfl) (by clear h hN; have hcst : ∀ v, a.eval (.const v) = v := (fun _ => rfl); have hfun : ∀ f, a.eval (.func f) = .func (.func f) #[] #[] := (fun _ => rfl); generalize a.eval = ρ at *; go_simp) rfl (show W = W from rfl)
            | 1, ho, hui =>
              obtain rfl := Option.some.inj (show some _ = some o from ho)
              have e12 : a.eval (.tmp 12) = .int .i64 (k : Int) := hN.eval 12 (by kernel_rfl)
              refine fill_value (v := .int .i64 (k : Int)) ho rfl (by rfl) (by clear h hN; have hcst : ∀ v, a.eval (.const v) = v := (fun _ => rfl); have hfun : ∀ f, a.eval (.func f) = .func (.func f) #[] #[] := (fun _ => rfl); generalize a.eval = ρ at *; go_simp) rfl (show W = W from rfl)
            | 2, ho, hui =>
              obtain rfl := Option.some.inj (show some _ = some o from ho)
              have e86 : a.eval (.tmp 86) = .int .i64 (k : Int) := h ⟨1, .data⟩ (by simp) rfl
              refine fill_value (v := .int .i64 (c8 : Int)) ho rfl (by rfl) (by clear h hN; have hcst : ∀ v, a.eval (.const v) = v := (fun _ => rfl); have hfun : ∀ f, a.eval (.func f) = .func (.func f) #[] #[] := (fun _ => rfl); generalize a.eval = ρ at *; go_simp) rfl (show W = W from rfl)
            | 3, ho, hui =>
              obtain rfl := Option.some.inj (show some _ = some o from ho)
              have e85 : a.eval (.tmp 85) = .slice (some ⟨gd, 0, none⟩) (m + 4) capd := h ⟨0, .data⟩ (by simp) rfl
              have e87 : a.eval (.tmp 87) = .int .i64 (c8 : Int) := h ⟨2, .data⟩ (by simp) rfl
              refine fill_value (v := .pointer (some ⟨gd, c8, none⟩)) ho rfl (by rfl) (by clear h hN; have hcst : ∀ v, a.eval (.const v) = v := (fun _ => rfl); have hfun : ∀ f, a.eval (.func f) = .func (.func f) #[] #[] := (fun _ => rfl); generalize a.eval = ρ at *; go_simp) rfl (show W = W from rfl)
            | 4, ho, hui =>
              obtain rfl := Option.some.inj (show some _ = some o from ho)
              have e88 : a.eval (.tmp 88) = .pointer (some ⟨gd, c8, none⟩) := h ⟨3, .data⟩ (by simp) rfl
              have hc : W.cell? ⟨gd, c8, none⟩ = some (.int .u8 (d : Int)) := hui
              refine fill_value (v := .int .u8 (d : Int)) ho rfl (by rfl) (by clear h hN; have hcst : ∀ v, a.eval (.const v) = v := (fun _ => rfl); have hfun : ∀ f, a.eval (.func f) = .func (.func f) #[] #[] := (fun _ => rfl); generalize a.eval = ρ at *; go_simp) rfl (show W = W from rfl)
            | 5, ho, hui =>
              obtain rfl := Option.some.inj (show some _ = some o from ho)
              have e12 : a.eval (.tmp 12) = .int .i64 (k : Int) := hN.eval 12 (by kernel_rfl)
              refine fill_value (v := .int .i64 (k : Int)) ho rfl (by rfl) (by clear h hN; have hcst : ∀ v, a.eval (.const v) = v := (fun _ => rfl); have hfun : ∀ f, a.eval (.func f) = .func (.func f) #[] #[] := (fun _ => rfl); generalize a.eval = ρ at *; go_simp) rfl (show W = W from rfl)
            | 6, ho, hui =>
              obtain rfl := Option.some.inj (show some _ = some o from ho)
              have e90 : a.eval (.tmp 90) = .int .i64 (k : Int) := h ⟨5, .data⟩ (by simp) rfl
              refine fill_value (v := .int .i64 (r8 : Int)) ho rfl (by rfl) (by clear h hN; have hcst : ∀ v, a.eval (.const v) = v := (fun _ => rfl); have hfun : ∀ f, a.eval (.func f) = .func (.func f) #[] #[] := (fun _ => rfl); generalize a.eval = ρ at *; go_simp) rfl (show W = W from rfl)
            | 7, ho, hui =>
              obtain rfl := Option.some.inj (show some _ = some o from ho)
              have e91 : a.eval (.tmp 91) = .int .i64 (r8 : Int) := h ⟨6, .data⟩ (by simp) rfl
              have q10 : IntKind.u8.wrap (2 ^ r8) = (2 ^ r8 % 256 : Int) := IntKind.wrap_u8' _
              refine fill_value (v := .int .u8 (2 ^ r8 % 256)) ho rfl (by rfl) (by clear h hN; have hcst : ∀ v, a.eval (.const v) = v := (fun _ => rfl); have hfun : ∀ f, a.eval (.func f) = .func (.func f) #[] #[] := (fun _ => rfl); generalize a.eval = ρ at *; go_simp) rfl (show W = W from rfl)
            | 8, ho, hui =>
              obtain rfl := Option.some.inj (show some _ = some o from ho)
              have e89 : a.eval (.tmp 89) = .int .u8 (d : Int) := h ⟨4, .data⟩ (by simp) rfl
              have e92 : a.eval (.tmp 92) = .int .u8 (2 ^ r8 % 256) := h ⟨7, .data⟩ (by simp) rfl
              have hx := hX.out trivial _ rfl
              refine fill_value (v := .int .u8 ((d ^^^ 2 ^ r8 : Nat) : Int)) ho rfl (by rfl) (by clear h hN; have hcst : ∀ v, a.eval (.const v) = v := (fun _ => rfl); have hfun : ∀ f, a.eval (.func f) = .func (.func f) #[] #[] := (fun _ => rfl); generalize a.eval = ρ at *; go_simp) rfl (show W = W from rfl)
            | 9, ho, hui =>
              obtain rfl := Option.some.inj (show some _ = some o from ho)
              have e85 : a.eval (.tmp 85) = .slice (some ⟨gd, 0, none⟩) (m + 4) capd := h ⟨0, .data⟩ (by simp) rfl
              have e87 : a.eval (.tmp 87) = .int .i64 (c8 : Int) := h ⟨2, .data⟩ (by simp) rfl
              refine fill_value (v := .pointer (some ⟨gd, c8, none⟩)) ho rfl (by rfl) (by clear h hN; have hcst : ∀ v, a.eval (.const v) = v := (fun _ => rfl); have hfun : ∀ f, a.eval (.func f) = .func (.func f) #[] #[] := (fun _ => rfl); generalize a.eval = ρ at *; go_simp) rfl (show W = W from rfl)
            | 10, ho, hui =>
              obtain rfl := Option.some.inj (show some _ = some o from ho)
              have e94 : a.eval (.tmp 94) = .pointer (some ⟨gd, c8, none⟩) := h ⟨9, .data⟩ (by simp) rfl
              have e93 : a.eval (.tmp 93) = .int .u8 ((d ^^^ 2 ^ r8 : Nat) : Int) := h ⟨8, .data⟩ (by simp) rfl
              have hc : W.cell? ⟨gd, c8, none⟩ = some (.int .u8 (d : Int)) := hui.1
              have hfr : W.frozen? ⟨gd, c8, none⟩ = false := hui.2.1
              refine fill_done (w' := W.setCell ⟨gd, c8, none⟩ (.int .u8 ((d ^^^ 2 ^ r8 : Nat) : Int))) ho rfl (by rfl) (by clear h hN; have hcst : ∀ v, a.eval (.const v) = v := (fun _ => rfl); have hfun : ∀ f, a.eval (.func f) = .func (.func f) #[] #[] := (fun _ => rfl); generalize a.eval = ρ at *; go_simp) ⟨rfl, hui.2.2⟩ ((Below.refl _ _).setCell (p := ⟨gd, c8, none⟩) hgw.out _)
            | nX + 11, ho, hui => exact absurd ho (by simp)
          · intro vals W hi h
            have u0 : vals 0 = .slice (some ⟨gd, 0, none⟩) (m + 4) capd := h 0 (by decide)
            have u1 : vals 1 = .int .i64 (k : Int) := h 1 (by decide)
            have u2 : vals 2 = .int .i64 (c8 : Int) := h 2 (by decide)
            have u3 : vals 3 = .pointer (some ⟨gd, c8, none⟩) := h 3 (by decide)
            have u4 : vals 4 = .int .u8 (d : Int) := h 4 (by decide)
            have u5 : vals 5 = .int .i64 (k : Int) := h 5 (by decide)
            have u6 : vals 6 = .int .i64 (r8 : Int) := h 6 (by decide)
            have u7 : vals 7 = .int .u8 (2 ^ r8 % 256) := h 7 (by decide)
            have u8 : vals 8 = .int .u8 ((d ^^^ 2 ^ r8 : Nat) : Int) := h 8 (by decide)
            have u9 : vals 9 = .pointer (some ⟨gd, c8, none⟩) := h 9 (by decide)
            obtain ⟨u10, p10⟩ : vals 10 = undef ∧ (Fc.Flipped C k 1 1 gd capd w.heap.size w W ∧ Fc.Row W gc (m + 4) C) := h 10 (by decide)
            generalize hA : fill _ _ _ _ = A
            have hA2 : (Act.put (Act.put (Act.put (Act.put (Act.put (Act.put (Act.put (Act.put (Act.put (Act.put (Act.put (_ : Act) (some 85) (vals 0)) (some 86) (vals 1)) (some 87) (vals 2)) (some 88) (vals 3)) (some 89) (vals 4)) (some 90) (vals 5)) (some 91) (vals 6)) (some 92) (vals 7)) (some 93) (vals 8)) (some 94) (vals 9)) none (vals 10)) = A := hA
            clear hA h V R U
            rw [u0, u1, u2, u3, u4, u5, u6, u7, u8, u9, u10] at hA2
            simp only [fill, Act.put, List.setIfInBounds_toArray, List.set_cons_succ, List.set_cons_zero] at hA2
            subst hA2
            clear u0 u1 u2 u3 u4 u5 u6 u7 u8 u9 u10
            obtain ⟨M, hM1, hM2, hM3, hM4, hM5⟩ := Fc.flipped_end p10.1 HCb.out HCO.out (by rw [HCl.out trivial]; omega) (by decide)
            have hMno : ¬ Fc.Opens M := fun h => by have := hM5.1 h; omega
            have hrcW := Lib.hid p10.2
            have HMl := Lib.hid (fun _ : True => hM1)
            have HM3 := Lib.hid hM3
            have HMb := Lib.hid hM2
            have HMno := Lib.hid hMno
            have hbW := Lib.hid hi
            clear p10 hM1 hM2 hM3 hM4 hM5 hMno hi hcell hfree HF1 hrc4 hX hrc3
            have HO1 := Lib.hid (Fc.open_yes (some ⟨gc, 0, none⟩) (m + 4) C m (HCl.out trivial) (by omega) (Nat.le_refl _) HCb.out HCO.out W (Lib.hid (HT.out _ hbW.out).2) (Lib.hid (Fc.row_srcs hrcW.out)))
            rw [HCt.out trivial] at HO1
            go_wp2_with fail
            refine HO1.out.mono ?_
            clear HO1
            rintro e w4 ⟨go, rfl, hgo, hro, hb4⟩
            have hbW4 := Lib.hid (Fw.chain2 hbW.out hb4.out)
            have HO2 := Lib.hid (Fc.open_any (some ⟨gd, 0, none⟩) capd M (by rw [HMl.out trivial, HCl.out trivial]; omega) (by rw [HMl.out trivial, HCl.out trivial]; omega) (by rw [HMl.out trivial, HCl.out trivial]; exact hcd1) HMb.out w4 (Lib.hid (HT.out _ hbW4.out).2) (Lib.hid (Fc.row_srcs (Fc.row_later HM3.out hb4.out))))
            rw [HMl.out trivial, HCl.out trivial] at HO2
            go_wp2_with fail
            refine HO2.out.mono ?_
            clear HO2
            rintro e w5 ⟨hb5', ⟨hO, rfl⟩ | ⟨hO, g5, rfl, _⟩⟩
            case' inr => exact absurd hO HMno.out
            have hbW5 := Lib.hid (Fw.chain2 hbW4.out hb5')
            have hro5 := Lib.hid (Fc.row_later hro.out hb5')
            have HW1 := Lib.hid (Fw.open_m (some ⟨go, 0, none⟩) m m L (HLm.out trivial) (by omega) w5 (Lib.hid (Fw.src_of_at (g := go) (o := 0) (fun i hi => by rw [Nat.zero_add]; exact Fc.row_byte hro5.out i hi))))
            clear hb5' hO
            go_wp2_with fail
            refine HW1.out.mono ?_
            clear HW1
            rintro e w6 ⟨gi, rfl, hgi, hbx6, hb6⟩
            have hbW6 := Lib.hid (Fw.chain2 hbW5.out hb6.out)
            have hgiw : Hid (w.heap.size ≤ gi) := Lib.hid (Nat.le_trans hbW5.out.size hgi)
            have hBx : Hid (Fw.Box w6 gi (enc (A.drop 0) ++ enc Bf) 0) := Lib.hid (by rw [List.drop_zero, HLd.out trivial]; exact hbx6.out)
            have HRA : Hid (∀ j, Fw.Bytes (enc (A.drop j) ++ enc Bf)) := Lib.hid fun j => by rw [← enc_app]; exact enc_bytes _
            have HRAl : Hid (∀ j, (enc (A.drop j) ++ enc Bf).length ≤ 1200) := Lib.hid fun j => by
              rw [List.length_append]
              have h1 := HBE.out
              have h2 := enc_len (A.drop j) fun t ht => HAs.out t (List.mem_of_mem_drop ht)
              rw [List.length_drop, HAl.out trivial] at h2
              omega
            clear hbx6 hb6 hbW4 hbW5 hgi hro hro5 hrcW HM3 HMl HMb HMno hb4 hgo
            go_wp2_with fail
            go_loopw [18] (fun i wr => ∃ j : Nat, i = .int .i64 (j : Int) ∧ j ≤ p ∧ Hid (Fw.Box wr gi (enc (A.drop j) ++ enc Bf) 0) ∧ Hid (Below w.heap.size w wr)) (fun i _ => p - (intOf i).toNat)
            case atStart => exact ⟨0, rfl, by omega, hBx, hbW6⟩
            case round =>
              clear hBx
              obtain ⟨j, rfl, hjp, hbox, hbel⟩ := hrel
              by_cases hj : j < p
              · have HE : enc (A.drop j) ++ enc Bf = Fw.wT (tI (ns.getD j 0)) ++ (enc (A.drop (j + 1)) ++ enc Bf) := by rw [drop_next A ByteArray.empty j (by rw [HAl.out trivial]; exact hj), enc_cons, HAg.out j hj, List.append_assoc]
                obtain ⟨g, o, rfl, hcs⟩ := HSI.out _ hbel.out (by rw [Hns.out trivial]; omega)
                have HC2 : Hid (∀ V, Below w.heap.size w V → V.cell? ⟨g, o + j, none⟩ = some (.int .i64 (ns.getD j 0))) := Lib.hid fun V hV => by
                  obtain ⟨g', o', e1, hcs'⟩ := HSI.out _ hV (by rw [Hns.out trivial]; omega)
                  cases e1
                  exact hcs' j (by rw [Hns.out trivial]; exact hj)
                have hRb := HRA.out (j + 1)
                have hRl := HRAl.out j
                rw [HE] at hbox hRl
                obtain ⟨RR, hRR⟩ : ∃ RR, enc (A.drop (j + 1)) ++ enc Bf = RR := ⟨_, rfl⟩
                rw [hRR] at hbox hRb hRl
                have HRR := Lib.hid (fun _ : True => hRR)
                have HRl : Hid ((Fw.wT (tI (ns.getD j 0)) ++ RR).length ≤ 1000000) := Lib.hid (by omega)
                clear HE hcs hRR hRl
                generalize ns.getD j 0 = x at *
                have HS1 := Lib.hid (str_most gi (tI x) 20 20 rfl (tI_size x) (by decide) RR hRb HRl.out wr hbox)
                have HR1 := Lib.hid (fun W => read_ti x W)
                clear hRb
                generalize tI x = t at *
                go_wp2_with fail
                refine HS1.out.mono ?_
                rintro e w7 ⟨rfl, hbx7, hb7⟩
                have hbW7 := Lib.hid (hbel.out.trans (hb7.out.mono hgiw.out))
                have hc7 := HC2.out _ hbW7.out
                go_wp2_with fail
                refine (HR1.out _).mono ?_
                rintro e w' ⟨rfl, rfl⟩
                go_wp2_with fail
                refine (Fd.wrap_any x _).mono ?_
                rintro e w' ⟨rfl, rfl⟩
                go_wp2_with fail
                go_roundw
                case rel => exact ⟨j + 1, by go_num, by omega, Lib.hid (by rw [HRR.out trivial]; exact hbx7.out), hbW7⟩
                case measure => simp [intOf]; omega
              · have hBx2 : Hid (Fw.Box wr gi (enc (Bf.drop 0)) 0) := Lib.hid (by
                  have := hbox.out
                  rw [List.drop_of_length_le (by rw [HAl.out trivial]; omega)] at this
                  simpa [enc] using this)
                have hjp2 : j = p := by omega
                subst hjp2
                clear hbox hj
                go_wp2_with fail
                go_loopw [21] (fun i wr => ∃ j : Nat, i = .int .i64 (j : Int) ∧ j ≤ q ∧ Hid (Fw.Box wr gi (enc (Bf.drop j)) 0) ∧ Hid (Below w.heap.size w wr)) (fun i _ => q - (intOf i).toNat)
                case atStart => exact ⟨0, rfl, by omega, hBx2, hbel⟩
                case round =>
                  clear hBx2 hbel
                  obtain ⟨j, rfl, hjq, hbox, hbel⟩ := hrel
                  by_cases hj : j < q
                  · have HE : enc (Bf.drop j) = Fw.wT (tF (fs.getD j 0)) ++ enc (Bf.drop (j + 1)) := by rw [drop_next Bf ByteArray.empty j (by rw [HBl.out trivial]; exact hj), enc_cons, HBg.out j hj]
                    obtain ⟨gf, of, rfl, hcs⟩ := HSU.out _ hbel.out (by rw [Hfs.out trivial]; omega)
                    have HC2 : Hid (∀ V, Below w.heap.size w V → V.cell? ⟨gf, of + j, none⟩ = some (.int .u64 ((fs.getD j 0 : Nat) : Int))) := Lib.hid fun V hV => by
                      obtain ⟨g', o', e1, hcs'⟩ := HSU.out _ hV (by rw [Hfs.out trivial]; omega)
                      cases e1
                      exact hcs' j (by rw [Hfs.out trivial]; exact hj)
                    have hxl := HF.out j
                    have HRb := Lib.hid (enc_bytes (Bf.drop (j + 1)))
                    have hRl : (enc (Bf.drop j)).length ≤ 1000000 := by
                      have h2 := enc_len (Bf.drop j) fun t ht => HBs.out t (List.mem_of_mem_drop ht)
                      rw [List.length_drop, HBl.out trivial] at h2
                      omega
                    rw [HE] at hbox hRl
                    have HRl := Lib.hid hRl
                    obtain ⟨RR, hRR⟩ : ∃ RR, enc (Bf.drop (j + 1)) = RR := ⟨_, rfl⟩
                    rw [hRR] at hbox HRb HRl
                    have HRR := Lib.hid (fun _ : True => hRR)
                    clear HE hcs hRR hRl
                    generalize fs.getD j 0 = x at *
                    have HX := Lib.hid (fun W => bits_tf x hxl W)
                    have Hts := Lib.hid (fun _ : True => tF_size x)
                    generalize tF x = t at *
                    have i0 : (0 : Int) ≤ (j : Int) := Int.natCast_nonneg j
                    have i1 : (j : Int) < (q : Int) := by omega
                    go_wp2_with fail
                    let U : Nat → World → Prop := fun jX W => match jX with | 0 => True | 1 => Fw.Box W gi (Fw.wT t ++ RR) 0 | 2 => True | 3 => True | 4 => True | 5 => True | 6 => True | 7 => True | 8 => True | 9 => True | _ => True
                    let R : Nat → World → World → Prop := fun jX W W2 => match jX with | 0 => W = W2 | 1 => Below gi W W2 | 2 => W = W2 | 3 => W = W2 | 4 => W = W2 | 5 => W = W2 | 6 => W = W2 | 7 => W = W2 | 8 => Below W.heap.size W W2 | 9 => W = W2 | _ => W = W2
                    let V : Nat → Value → World → Prop := fun jX v W => match jX with | 0 => v = .pointer (some ⟨gi, 0, none⟩) | 1 => v = .string t ∧ Fw.Box W gi RR 0 | 2 => v = .slice (some ⟨gf, of, none⟩) q cap1 | 3 => v = .int .i64 (j : Int) | 4 => v = .pointer (some ⟨gf, of + j, none⟩) | 5 => v = .int .u64 (x : Int) | 6 => v = .float .f64 x | 7 => v = .int .u64 ((Fn.canon x : Nat) : Int) | 8 => v = .string t | 9 => v = .bool false | _ => True
                    refine wp_region_fill2 (by kernel_rfl) U V (fun W => Below w.heap.size w W) R (by kernel_rfl) (by kernel_rfl) (hbel.out.trans ((Below.refl _ _).drew)) ?_ ?_ ?_ ?_ ?_ ?_
                    · intro jX
                      match jX with
                      | 0 => exact trivial
                      | 1 => exact Fw.box_later hbox.out ((Below.refl _ _).drew)
                      | 2 => exact trivial
                      | 3 => exact trivial
                      | 4 => exact trivial
                      | 5 => exact trivial
                      | 6 => exact trivial
                      | 7 => exact trivial
                      | 8 => exact trivial
                      | 9 => exact trivial
                      | nX + 10 => exact trivial
                    · intro iX W W2 hr hi
                      match iX, hr with
                      | 0, hr => exact (show W = W2 from hr) ▸ hi
                      | 1, hr => exact hi.trans (Below.mono hr hgiw.out)
                      | 2, hr => exact (show W = W2 from hr) ▸ hi
                      | 3, hr => exact (show W = W2 from hr) ▸ hi
                      | 4, hr => exact (show W = W2 from hr) ▸ hi
                      | 5, hr => exact (show W = W2 from hr) ▸ hi
                      | 6, hr => exact (show W = W2 from hr) ▸ hi
                      | 7, hr => exact (show W = W2 from hr) ▸ hi
                      | 8, hr => exact hi.trans (Below.mono hr hi.size)
                      | 9, hr => exact (show W = W2 from hr) ▸ hi
                      | nX + 10, hr => exact (show W = W2 from hr) ▸ hi
                    · intro iX jX W W2 hij hi hui hr h
                      match iX, hij, hui, hr with
                      | 0, hij, hui, hr => exact (show W = W2 from hr) ▸ h
                      | 1, hij, hui, hr =>
                        match jX, hij, h with
                        | 0, hij, h => exact h
                        | 1, hij, h => exact absurd rfl hij
                        | 2, hij, h => exact h
                        | 3, hij, h => exact h
                        | 4, hij, h => exact h
                        | 5, hij, h => exact h
                        | 6, hij, h => exact h
                        | 7, hij, h => exact h
                        | 8, hij, h => exact h
                        | 9, hij, h => exact h
                        | nX + 10, hij, h => exact h
                      | 2, hij, hui, hr => exact (show W = W2 from hr) ▸ h
                      | 3, hij, hui, hr => exact (show W = W2 from hr) ▸ h
                      | 4, hij, hui, hr => exact (show W = W2 from hr) ▸ h
                      | 5, hij, hui, hr => exact (show W = W2 from hr) ▸ h
                      | 6, hij, hui, hr => exact (show W = W2 from hr) ▸ h
                      | 7, hij, hui, hr => exact (show W = W2 from hr) ▸ h
                      | 8, hij, hui, hr =>
                        match jX, hij, h with
                        | 0, hij, h => exact h
                        | 1, hij, h => exact Fw.box_later h hr
                        | 2, hij, h => exact h
                        | 3, hij, h => exact h
                        | 4, hij, h => exact h
                        | 5, hij, h => exact h
                        | 6, hij, h => exact h
                        | 7, hij, h => exact h
                        | 8, hij, h => exact absurd rfl hij
                        | 9, hij, h => exact h
                        | nX + 10, hij, h => exact h
                      | 9, hij, hui, hr => exact (show W = W2 from hr) ▸ h
                      | nX + 10, hij, hui, hr => exact (show W = W2 from hr) ▸ h
                    · intro iX jX v W W2 hij hi hui hr h
                      match iX, hij, hui, hr with
                      | 0, hij, hui, hr => exact (show W = W2 from hr) ▸ h
                      | 1, hij, hui, hr =>
                        match jX, hij, h with
                        | 0, hij, h => exact h
                        | 1, hij, h => exact absurd rfl hij
                        | 2, hij, h => exact h
                        | 3, hij, h => exact h
                        | 4, hij, h => exact h
                        | 5, hij, h => exact h
                        | 6, hij, h => exact h
                        | 7, hij, h => exact h
                        | 8, hij, h => exact h
                        | 9, hij, h => exact h
                        | nX + 10, hij, h => exact h
                      | 2, hij, hui, hr => exact (show W = W2 from hr) ▸ h
                      | 3, hij, hui, hr => exact (show W = W2 from hr) ▸ h
                      | 4, hij, hui, hr => exact (show W = W2 from hr) ▸ h
                      | 5, hij, hui, hr => exact (show W = W2 from hr) ▸ h
                      | 6, hij, hui, hr => exact (show W = W2 from hr) ▸ h
                      | 7, hij, hui, hr => exact (show W = W2 from hr) ▸ h
                      | 8, hij, hui, hr =>
                        match jX, hij, h with
                        | 0, hij, h => exact h
                        | 1, hij, h => exact ⟨h.1, Fw.box_later h.2 hr⟩
                        | 2, hij, h => exact h
                        | 3, hij, h => exact h
                        | 4, hij, h => exact h
                        | 5, hij, h => exact h
                        | 6, hij, h => exact h
                        | 7, hij, h => exact h
                        | 8, hij, h => exact absurd rfl hij
                        | 9, hij, h => exact h
                        | nX + 10, hij, h => exact h
                      | 9, hij, hui, hr => exact (show W = W2 from hr) ▸ h
                      | nX + 10, hij, hui, hr => exact (show W = W2 from hr) ▸ h
                    · intro iX o ho a W hN hi hui h
                      match iX, ho, hui with
                      | 0, ho, hui =>
                        obtain rfl := Option.some.inj (show some _ = some o from ho)
                        have e17 : a.eval (.tmp 17) = .pointer (some ⟨gi, 0, none⟩) := hN.eval 17 (by kernel_rfl)
                        refine fill_value (v := .pointer (some ⟨gi, 0, none⟩)) ho rfl (by rfl) (by clear h hN; have hcst : ∀ v, a.eval (.const v) = v := (fun _ => rfl); have hfun : ∀ f, a.eval (.func f) = .func (.func f) #[] #[] := (fun _ => rfl); generalize a.eval = ρ at *; go_simp) rfl (show W = W from rfl)
                      | 1, ho, hui =>
                        obtain rfl := Option.some.inj (show some _ = some o from ho)
                        have e141 : a.eval (.tmp 141) = .pointer (some ⟨gi, 0, none⟩) := h ⟨0, .data⟩ (by simp) rfl
                        refine fill_enter (f := 14) (args := #[.pointer (some ⟨gi, 0, none⟩), .int .i64 16]) ho rfl (by rfl) (by clear h hN; have hcst : ∀ v, a.eval (.const v) = v := (fun _ => rfl); have hfun : ∀ f, a.eval (.func f) = .func (.func f) #[] #[] := (fun _ => rfl); generalize a.eval = ρ at *; go_simp) (str_most gi t 16 16 rfl (by rw [Hts.out trivial]; decide) (by decide) RR HRb.out HRl.out W (Lib.hid hui)) ?_
                        rintro e w2 ⟨rfl, h5, h6⟩
                        exact ⟨_, rfl, ⟨rfl, h5.out⟩, h6.out⟩
                      | 2, ho, hui =>
                        obtain rfl := Option.some.inj (show some _ = some o from ho)
                        have e1 : a.eval (.tmp 1) = .slice (some ⟨gf, of, none⟩) q cap1 := hN.eval 1 (by kernel_rfl)
                        refine fill_value (v := .slice (some ⟨gf, of, none⟩) q cap1) ho rfl (by rfl) (by clear h hN; have hcst : ∀ v, a.eval (.const v) = v := (fun _ => rfl); have hfun : ∀ f, a.eval (.func f) = .func (.func f) #[] #[] := (fun _ => rfl); generalize a.eval = ρ at *; go_simp) rfl (show W = W from rfl)
                      | 3, ho, hui =>
                        obtain rfl := Option.some.inj (show some _ = some o from ho)
                        have e21 : a.eval (.tmp 21) = .int .i64 (j : Int) := hN.eval 21 (by kernel_rfl)
                        refine fill_value (v := .int .i64 (j : Int)) ho rfl (by rfl) (by clear h hN; have hcst : ∀ v, a.eval (.const v) = v := (fun _ => rfl); have hfun : ∀ f, a.eval (.func f) = .func (.func f) #[] #[] := (fun _ => rfl); generalize a.eval = ρ at *; go_simp) rfl (show W = W from rfl)
                      | 4, ho, hui =>
                        obtain rfl := Option.some.inj (show some _ = some o from ho)
                        have e143 : a.eval (.tmp 143) = .slice (some ⟨gf, of, none⟩) q cap1 := h ⟨2, .data⟩ (by simp) rfl
                        have e144 : a.eval (.tmp 144) = .int .i64 (j : Int) := h ⟨3, .data⟩ (by simp) rfl
                        refine fill_value (v := .pointer (some ⟨gf, of + j, none⟩)) ho rfl (by rfl) (by clear h hN; have hcst : ∀ v, a.eval (.const v) = v := (fun _ => rfl); have hfun : ∀ f, a.eval (.func f) = .func (.func f) #[] #[] := (fun _ => rfl); generalize a.eval = ρ at *; go_simp) rfl (show W = W from rfl)
                      | 5, ho, hui =>
                        obtain rfl := Option.some.inj (show some _ = some o from ho)
                        have e145 : a.eval (.tmp 145) = .pointer (some ⟨gf, of + j, none⟩) := h ⟨4, .data⟩ (by simp) rfl
                        have hc := HC2.out W hi
                        refine fill_value (v := .int .u64 (x : Int)) ho rfl (by rfl) (by clear h hN; have hcst : ∀ v, a.eval (.const v) = v := (fun _ => rfl); have hfun : ∀ f, a.eval (.func f) = .func (.func f) #[] #[] := (fun _ => rfl); generalize a.eval = ρ at *; go_simp) rfl (show W = W from rfl)
                      | 6, ho, hui =>
                        obtain rfl := Option.some.inj (show some _ = some o from ho)
                        have e146 : a.eval (.tmp 146) = .int .u64 (x : Int) := h ⟨5, .data⟩ (by simp) rfl
                        refine fill_enter (f := 7) (args := #[.int .u64 (x : Int)]) ho rfl (by rfl) (by clear h hN; have hcst : ∀ v, a.eval (.const v) = v := (fun _ => rfl); have hfun : ∀ f, a.eval (.func f) = .func (.func f) #[] #[] := (fun _ => rfl); generalize a.eval = ρ at *; go_simp) (Fn.go_any x W) ?_
                        rintro e w2 ⟨rfl, rfl⟩
                        exact ⟨_, rfl, rfl, (show W = W from rfl)⟩
                      | 7, ho, hui =>
                        obtain rfl := Option.some.inj (show some _ = some o from ho)
                        have e147 : a.eval (.tmp 147) = .float .f64 x := h ⟨6, .data⟩ (by simp) rfl
                        refine fill_enter (f := 6) (args := #[.float .f64 x]) ho rfl (by rfl) (by clear h hN; have hcst : ∀ v, a.eval (.const v) = v := (fun _ => rfl); have hfun : ∀ f, a.eval (.func f) = .func (.func f) #[] #[] := (fun _ => rfl); generalize a.eval = ρ at *; go_simp) (Fn.of_any x W) ?_
                        rintro e w2 ⟨rfl, rfl⟩
                        exact ⟨_, rfl, rfl, (show W = W from rfl)⟩
                      | 8, ho, hui =>
                        obtain rfl := Option.some.inj (show some _ = some o from ho)
                        have e148 : a.eval (.tmp 148) = .int .u64 ((Fn.canon x : Nat) : Int) := h ⟨7, .data⟩ (by simp) rfl
                        refine fill_enter (f := 8) (args := #[.int .u64 ((Fn.canon x : Nat) : Int)]) ho rfl (by rfl) (by clear h hN; have hcst : ∀ v, a.eval (.const v) = v := (fun _ => rfl); have hfun : ∀ f, a.eval (.func f) = .func (.func f) #[] #[] := (fun _ => rfl); generalize a.eval = ρ at *; go_simp) (HX.out W) ?_
                        rintro e w2 ⟨rfl, h5⟩
                        exact ⟨_, rfl, rfl, h5.out⟩
                      | 9, ho, hui =>
                        obtain rfl := Option.some.inj (show some _ = some o from ho)
                        obtain ⟨e142, p142⟩ : a.eval (.tmp 142) = .string t ∧ Fw.Box W gi RR 0 := h ⟨1, .data⟩ (by simp) rfl
                        have e149 : a.eval (.tmp 149) = .string t := h ⟨8, .data⟩ (by simp) rfl
                        refine fill_value (v := .bool false) ho rfl (by rfl) (by clear h hN; have hcst : ∀ v, a.eval (.const v) = v := (fun _ => rfl); have hfun : ∀ f, a.eval (.func f) = .func (.func f) #[] #[] := (fun _ => rfl); generalize a.eval = ρ at *; go_simp) rfl (show W = W from rfl)
                      | nX + 10, ho, hui => exact absurd ho (by simp)
                    · intro vals W hi h
                      have u0 : vals 0 = .pointer (some ⟨gi, 0, none⟩) := h 0 (by decide)
                      obtain ⟨u1, p1⟩ : vals 1 = .string t ∧ Fw.Box W gi RR 0 := h 1 (by decide)
                      have u2 : vals 2 = .slice (some ⟨gf, of, none⟩) q cap1 := h 2 (by decide)
                      have u3 : vals 3 = .int .i64 (j : Int) := h 3 (by decide)
                      have u4 : vals 4 = .pointer (some ⟨gf, of + j, none⟩) := h 4 (by decide)
                      have u5 : vals 5 = .int .u64 (x : Int) := h 5 (by decide)
                      have u6 : vals 6 = .float .f64 x := h 6 (by decide)
                      have u7 : vals 7 = .int .u64 ((Fn.canon x : Nat) : Int) := h 7 (by decide)
                      have u8 : vals 8 = .string t := h 8 (by decide)
                      have u9 : vals 9 = .bool false := h 9 (by decide)
                      generalize hA : fill _ _ _ _ = A
                      have hA2 : (Act.put (Act.put (Act.put (Act.put (Act.put (Act.put (Act.put (Act.put (Act.put (Act.put (_ : Act) (some 141) (vals 0)) (some 142) (vals 1)) (some 143) (vals 2)) (some 144) (vals 3)) (some 145) (vals 4)) (some 146) (vals 5)) (some 147) (vals 6)) (some 148) (vals 7)) (some 149) (vals 8)) (some 150) (vals 9)) = A := hA
                      clear hA h V R U
                      rw [u0, u1, u2, u3, u4, u5, u6, u7, u8, u9] at hA2
                      simp only [fill, Act.put, List.setIfInBounds_toArray, List.set_cons_succ, List.set_cons_zero] at hA2
                      subst hA2
                      clear u0 u1 u2 u3 u4 u5 u6 u7 u8 u9
                      have hbox5 : Hid (Fw.Box W gi (enc (Bf.drop (j + 1))) 0) := Lib.hid (by rw [HRR.out trivial]; exact p1)
                      have hbel5 := Lib.hid hi
                      clear p1 hi
                      go_wp2_with fail
                      go_roundw
                      case rel => exact ⟨j + 1, by go_num, by omega, hbox5, hbel5⟩
                      case measure => simp [intOf]; omega
                  · have hjq2 : j = q := by omega
                    have hBx3 : Hid (Fw.Box wr gi [] 0) := Lib.hid (by
                      have := hbox.out
                      rw [List.drop_of_length_le (by rw [HBl.out trivial]; omega)] at this
                      simpa [enc] using this)
                    subst hjq2
                    clear hbox hj
                    go_wp2_with fail
                    refine (Fw.end_whole gi _ hBx3).mono ?_
                    rintro e w8 ⟨rfl, hb8⟩
                    go_wp2_with fail
                    go_ret
                    exact ⟨rfl, hbel.out.trans (hb8.out.mono hgiw.out)⟩
end Go.Proofs.YthkejjjgnjepjaaDoor
