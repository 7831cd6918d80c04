/- The contract of the document's ReadFloat, of a text with a sign. -/
import Derived.Test.YtodpglladcblhaaReadW
namespace Go.Proofs.Ytodpglladcblhaa
open Go.ChangeShapes Go.WideShapes Go.ChangeAt Go.RowKit
set_option maxRecDepth 100000 in
set_option maxHeartbeats 8000000 in
theorem refRead_minus (S : ByteArray) (l : List UInt8) (hsz : S.size = 1 + l.length) (hs : l.length ≤ 2000) (HB : Hid (∀ (j : Nat) (_ : 1 ≤ j) (h1 : j - 1 < l.length) (h2 : j < S.size), S[j] = l[j - 1])) (_hz : (0 : Int) < (S.size : Int)) (h0 : 0 < S.size) (h45 : ((S[0].toNat : Int) == 45) = true) (w : World) : Calls Try.prog 42 #[.string S] w fun e w' => e = rfOut true l ∧ ∃ n, w' = w.drewN n := by
  go_enter Try.func42, Try.ntmps42
  go_wp2_with fail
  go_loop [5, 6, 7, 8, 9, 10, 11] (fun i v t d ah bh pt => ∃ (j : Nat) (P : Bool) (a c : List UInt8), Sofar l 1 j P a c ∧ i = .int .i64 j ∧ v = .float .f64 (fN (nTo a c)) ∧ t = .float .f64 (fN (tTo c)) ∧ d = .int .i64 ((a.length + c.length : Nat) : Int) ∧ ah = .int .i64 (a.length : Int) ∧ bh = .int .i64 (c.length : Int) ∧ pt = .bool P) (fun i _ _ _ _ _ _ => S.size - (intOf i).toNat)
  case atStart => exact ⟨1, false, [], [], ⟨by omega, by omega, rfl, rfl, fun _ => rfl, by simp [sofar]⟩, rfl, by rw [n_start], by rw [t_start], rfl, rfl, rfl, rfl⟩
  case round =>
    obtain ⟨j, P, a, c, hS, rfl, rfl, rfl, rfl, rfl, rfl, rfl⟩ := hrel
    have hln := sofar_len P a c l (j - 1) hS.2.2.2.2.2 hS.2.2.2.2.1 hS.2.1
    have hj := hS.1
    have hj2 := hS.2.1
    have HS := Lib.hid (fun _ : True => hS)
    clear hS
    by_cases hlt : j < S.size
    · have hk : j - 1 < l.length := by omega
      have hx : S[j] = l[j - 1] := HB.out j (by omega) (by omega) hlt
      by_cases e46 : l[j - 1] = 46
      · have x1 : ((S[j].toNat : Int) == 46) = true := by rw [hx, e46]; rfl
        have E46 := Lib.hid (fun _ : True => e46)
        cases P
        · obtain rfl : c = [] := (HS.out trivial).2.2.2.2.1 rfl
          clear hx e46
          go_wp2_with fail
          go_round
          case rel => exact ⟨j + 1, true, a, [], sofar_pt (HS.out trivial) hk (E46.out trivial), by go_num, rfl, rfl, rfl, rfl, rfl, rfl⟩
          case measure => simp [intOf]; omega
        · have x2 : (S[j].toNat : Int) < 48 := by rw [hx, e46]; decide
          have HO := Lib.hid (fun _ : True => out_bad true l (sofar_bad (HS.out trivial) hk (by rw [e46]; decide) (fun _ => rfl)))
          clear hx e46
          go_wp2_with fail
          go_ret2
          exact ⟨(HO.out trivial).symm, 0, rfl⟩
      · have x1 : ((S[j].toNat : Int) == 46) = false := by rw [hx]; exact u8_ne46 e46
        have N46 := Lib.hid e46
        clear e46
        by_cases lo : l[j - 1].toNat < 48
        · have x2 : (S[j].toNat : Int) < 48 := by rw [hx]; omega
          have HO := Lib.hid (fun _ : True => out_bad true l (sofar_bad (HS.out trivial) hk (dgB_lo _ (by omega)) (fun e => absurd e N46.out)))
          clear hx lo
          go_wp2_with fail
          go_ret2
          exact ⟨(HO.out trivial).symm, 0, rfl⟩
        · by_cases hi : 57 < l[j - 1].toNat
          · have x2 : (57 : Int) < (S[j].toNat : Int) := by rw [hx]; omega
            have x3 : (48 : Int) ≤ (S[j].toNat : Int) := by rw [hx]; omega
            have HO := Lib.hid (fun _ : True => out_bad true l (sofar_bad (HS.out trivial) hk (dgB_hi _ (by omega)) (fun e => absurd e N46.out)))
            clear hx lo hi
            go_wp2_with fail
            go_ret2
            exact ⟨(HO.out trivial).symm, 0, rfl⟩
          · have x2 : (48 : Int) ≤ (S[j].toNat : Int) := by rw [hx]; omega
            have x3 : (S[j].toNat : Int) ≤ 57 := by rw [hx]; omega
            have hd : Hid (True → dgB l[j - 1] = true) := Lib.hid fun _ => dgB_in _ (by omega) (by omega)
            obtain ⟨dg, hdg⟩ : ∃ dg : Nat, dg = l[j - 1].toNat - 48 := ⟨_, rfl⟩
            have hcv := conv8_run dg ((S[j].toNat : Int) - 48) (by rw [hx]; omega)
            have hdb : dg ≤ 9 := by omega
            have HDG := Lib.hid (fun _ : True => hdg)
            clear hdg
            have ha := (HS.out trivial).2.2.1
            have hc := (HS.out trivial).2.2.2.1
            by_cases few : a.length + c.length ≤ 14
            · have hn := nTo_lt a c ha hc few
              have hm := mul10_run (nTo a c) (by omega)
              have hadd := addN_run (nTo a c * 10) dg (by omega)
              clear hx lo hi ha hc
              cases P
              · obtain rfl : c = [] := (HS.out trivial).2.2.2.2.1 rfl
                have few2 : a.length ≤ 14 := by simpa using few
                have HN : Hid (True → nTo (a ++ [l[j - 1]]) [] = nTo a [] * 10 + dg) := Lib.hid fun _ => by rw [HDG.out trivial]; exact nTo_few (a ++ []) (a ++ [l[j - 1]] ++ []) l[j - 1] (by rw [List.length_append]; exact few) (by simp)
                go_wp2_with fail
                go_round
                case rel => exact ⟨j + 1, false, a ++ [l[j - 1]], [], sofar_ahead (HS.out trivial) hk (hd.out trivial), by go_num, by rw [HN.out trivial], rfl, by rw [List.length_append, List.length_singleton]; exact ret_val (by simp only [List.length_nil]; omega), by rw [List.length_append, List.length_singleton]; exact ret_val (by omega), rfl, rfl⟩
                case measure => simp [intOf]; omega
              · have HN : Hid (True → nTo a (c ++ [l[j - 1]]) = nTo a c * 10 + dg) := Lib.hid fun _ => by rw [HDG.out trivial]; exact nTo_few (a ++ c) (a ++ (c ++ [l[j - 1]])) l[j - 1] (by rw [List.length_append]; exact few) (by simp)
                have HT := Lib.hid (fun _ : True => tTo_few c l[j - 1] (by omega))
                have ht := mul10_run (tTo c) (tTo_le c (by omega))
                go_wp2_with fail
                go_round
                case rel => exact ⟨j + 1, true, a, c ++ [l[j - 1]], sofar_behind (HS.out trivial) hk (hd.out trivial), by go_num, by rw [HN.out trivial], by rw [HT.out trivial], by rw [List.length_append, List.length_singleton]; exact ret_val (by omega), rfl, by rw [List.length_append, List.length_singleton]; exact ret_val (by omega), rfl⟩
                case measure => simp [intOf]; omega
            · clear hx lo hi ha hc hcv
              cases P
              · obtain rfl : c = [] := (HS.out trivial).2.2.2.2.1 rfl
                have few2 : 15 ≤ a.length := by simp at few; omega
                have HN : Hid (True → nTo (a ++ [l[j - 1]]) [] = nTo a []) := Lib.hid fun _ => nTo_many (a ++ []) (a ++ [l[j - 1]] ++ []) l[j - 1] (by rw [List.length_append]; omega) (by simp)
                go_wp2_with fail
                go_round
                case rel => exact ⟨j + 1, false, a ++ [l[j - 1]], [], sofar_ahead (HS.out trivial) hk (hd.out trivial), by go_num, by rw [HN.out trivial], rfl, by rw [List.length_append, List.length_singleton]; exact ret_val (by simp only [List.length_nil]; omega), by rw [List.length_append, List.length_singleton]; exact ret_val (by omega), rfl, rfl⟩
                case measure => simp [intOf]; omega
              · have HN : Hid (True → nTo a (c ++ [l[j - 1]]) = nTo a c) := Lib.hid fun _ => nTo_many (a ++ c) (a ++ (c ++ [l[j - 1]])) l[j - 1] (by rw [List.length_append]; omega) (by simp)
                by_cases tf : c.length ≤ 14
                · have HT := Lib.hid (fun _ : True => tTo_few c l[j - 1] tf)
                  have ht := mul10_run (tTo c) (tTo_le c tf)
                  go_wp2_with fail
                  go_round
                  case rel => exact ⟨j + 1, true, a, c ++ [l[j - 1]], sofar_behind (HS.out trivial) hk (hd.out trivial), by go_num, by rw [HN.out trivial], by rw [HT.out trivial], by rw [List.length_append, List.length_singleton]; exact ret_val (by omega), rfl, by rw [List.length_append, List.length_singleton]; exact ret_val (by omega), rfl⟩
                  case measure => simp [intOf]; omega
                · have HT := Lib.hid (fun _ : True => tTo_many c l[j - 1] (by omega))
                  go_wp2_with fail
                  go_round
                  case rel => exact ⟨j + 1, true, a, c ++ [l[j - 1]], sofar_behind (HS.out trivial) hk (hd.out trivial), by go_num, by rw [HN.out trivial], by rw [HT.out trivial], by rw [List.length_append, List.length_singleton]; exact ret_val (by omega), rfl, by rw [List.length_append, List.length_singleton]; exact ret_val (by omega), rfl⟩
                  case measure => simp [intOf]; omega
    · have hall : Hid (True → l = sofar P a c) := Lib.hid fun _ => by
        have := (HS.out trivial).2.2.2.2.2
        rwa [List.take_of_length_le (by omega)] at this
      have ha := (HS.out trivial).2.2.1
      have hc := (HS.out trivial).2.2.2.1
      cases P
      · obtain rfl : c = [] := (HS.out trivial).2.2.2.2.1 rfl
        have HO := Lib.hid (fun _ : True => out_bad true l (end_no a l ha (hall.out trivial)))
        clear ha hc
        go_wp2_with fail
        go_ret2
        exact ⟨(HO.out trivial).symm, 0, rfl⟩
      · have HG := Lib.hid (fun _ : True => end_good a c l ha hc (hall.out trivial))
        obtain ⟨HA1, HA2⟩ : Hid (True → ahd l = a) ∧ Hid (True → bhd l = c) := ⟨Lib.hid fun _ => (end_yes a c l ha (hall.out trivial)).1, Lib.hid fun _ => (end_yes a c l ha (hall.out trivial)).2⟩
        clear ha hc
        by_cases za : a.length = 0
        · have y1 : ((a.length : Int) == 0) = true := by rw [za]; rfl
          have HO := Lib.hid (fun _ : True => out_bad true l (by rw [HG.out trivial, za]; rfl))
          clear za
          go_wp2_with fail
          go_ret2
          exact ⟨(HO.out trivial).symm, 0, rfl⟩
        · have y1 : ((a.length : Int) == 0) = false := by rw [beq_eq_false_iff_ne]; omega
          by_cases zc : c.length = 0
          · have y2 : ((c.length : Int) == 0) = true := by rw [zc]; rfl
            have HO := Lib.hid (fun _ : True => out_bad true l (by rw [HG.out trivial, zc]; simp))
            clear zc
            go_wp2_with fail
            go_ret2
            exact ⟨(HO.out trivial).symm, 0, rfl⟩
          · have y2 : ((c.length : Int) == 0) = false := by rw [beq_eq_false_iff_ne]; omega
            have hgood : Hid (True → good l = true) := Lib.hid fun _ => by
              have g1 : (a.length == 0) = false := by rw [beq_eq_false_iff_ne]; exact za
              have g2 : (c.length == 0) = false := by rw [beq_eq_false_iff_ne]; exact zc
              rw [HG.out trivial, g1, g2]; rfl
            by_cases big : 15 < a.length + c.length
            · have HO := Lib.hid (fun _ : True => out_big true l (hgood.out trivial) (by rw [HA1.out trivial, HA2.out trivial]; exact big))
              go_wp2_with fail
              go_ret2
              exact ⟨(HO.out trivial).symm, 0, rfl⟩
            · have HO := Lib.hid (fun _ : True => out_ok true l (hgood.out trivial) (by rw [HA1.out trivial, HA2.out trivial]; omega))
              obtain ⟨r, n, hrun, hr⟩ := arith_run .quo (by simp) 38 (fN (nTo a c)) (fN (tTo c)) w
              have HR : Hid (True → canon r = quoN l) := Lib.hid fun _ => by
                rw [hr, nTo_all a c (by omega), ten_pos c (by omega)]
                unfold quoN
                rw [HA1.out trivial, HA2.out trivial]
              have HL := Lib.hid (quoN_lt l)
              clear hr
              go_wp2_with (go_at_call 40; refine (refOf_any _ _).mono ?_; rintro e w' ⟨rfl, rfl⟩)
              go_ret2
              refine ⟨?_, n, rfl⟩
              rw [HO.out trivial]
              show Ending.returned (.tuple #[.int .u64 (bits .xor .u64 ((canon r : Nat) : Int) 9223372036854775808), .int .i64 0]) = _
              rw [HR.out trivial, xor_opp _ HL.out, if_pos trivial]
theorem refRead_empty (S : ByteArray) (l : List UInt8) (hsz : S.size = 0) (he : l = []) (w : World) : Calls Try.prog 42 #[.string S] w fun e w' => e = rfOut false l ∧ ∃ n, w' = w.drewN n := by
  have HO := Lib.hid (fun _ : True => out_bad false l (by rw [he]; decide))
  clear he
  go_enter Try.func42, Try.ntmps42
  go_wp2_with fail
  go_loop [5, 11] (fun i pt => i = .int .i64 0 ∧ pt = .bool false) (fun _ _ => 0)
  case atStart => exact ⟨rfl, rfl⟩
  case round =>
    obtain ⟨rfl, rfl⟩ := hrel
    go_wp2_with fail
    go_ret2
    exact ⟨(HO.out trivial).symm, 0, rfl⟩
end Go.Proofs.Ytodpglladcblhaa
