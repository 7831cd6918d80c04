/- The contract of the document's ReadFloat. -/
import Derived.Test.YtodpglladcblhaaReadR
namespace Go.Proofs.Ytodpglladcblhaa
open Go.ChangeShapes Go.WideShapes Go.ChangeAt Go.RowKit

/-- what the loop keeps: j bytes were read, 'off' of them the sign's -/
def Sofar (l : List UInt8) (off j : Nat) (P : Bool) (a c : List UInt8) : Prop :=
  off ≤ j ∧ j - off ≤ l.length ∧ a.all dgB = true ∧ c.all dgB = true ∧ (P = false → c = []) ∧ l.take (j - off) = sofar P a c
theorem byte_of (pre l : List UInt8) (j : Nat) (h1 : pre.length ≤ j) (h2 : j - pre.length < l.length) : ∀ h : j < (st (pre ++ l)).size, (st (pre ++ l))[j] = l[j - pre.length] := by
  intro h
  rw [get_list _ j h]
  simp only [st_list]
  rw [List.getElem_append_right h1]
theorem take_more (l : List UInt8) (k : Nat) (h : k < l.length) : l.take (k + 1) = l.take k ++ [l[k]] := List.take_succ_eq_append_getElem h
theorem drop_more (l : List UInt8) (k : Nat) (h : k < l.length) : l = l.take k ++ l[k] :: l.drop (k + 1) := by
  rw [← List.drop_eq_getElem_cons h, List.take_append_drop]
theorem sofar_bad {l a c : List UInt8} {off j : Nat} {P : Bool} (h : Sofar l off j P a c) (hk : j - off < l.length) (hb : dgB l[j - off] = false) (h46 : l[j - off] = 46 → P = true) : good l = false :=
  good_bad P a c (l.drop (j - off + 1)) l l[j - off] h.2.2.1 (by have := drop_more l (j - off) hk; rw [h.2.2.2.2.2] at this; exact this) hb h46
theorem sofar_pt {l a c : List UInt8} {off j : Nat} (h : Sofar l off j false a c) (hk : j - off < l.length) (hb : l[j - off] = 46) : Sofar l off (j + 1) true a [] := by
  obtain ⟨h1, h2, h3, h4, h5, h6⟩ := h
  refine ⟨by omega, by omega, h3, rfl, fun e => absurd e (by decide), ?_⟩
  rw [show j + 1 - off = j - off + 1 by omega, take_more l _ hk, h6, hb]; rfl
theorem sofar_ahead {l a c : List UInt8} {off j : Nat} (h : Sofar l off j false a c) (hk : j - off < l.length) (hb : dgB l[j - off] = true) : Sofar l off (j + 1) false (a ++ [l[j - off]]) [] := by
  obtain ⟨h1, h2, h3, h4, h5, h6⟩ := h
  refine ⟨by omega, by omega, by rw [List.all_append, h3]; simp [hb], rfl, fun _ => rfl, ?_⟩
  rw [show j + 1 - off = j - off + 1 by omega, take_more l _ hk, h6]; rfl
theorem sofar_behind {l a c : List UInt8} {off j : Nat} (h : Sofar l off j true a c) (hk : j - off < l.length) (hb : dgB l[j - off] = true) : Sofar l off (j + 1) true a (c ++ [l[j - off]]) := by
  obtain ⟨h1, h2, h3, h4, h5, h6⟩ := h
  refine ⟨by omega, by omega, h3, by rw [List.all_append, h4]; simp [hb], fun e => absurd e (by decide), ?_⟩
  rw [show j + 1 - off = j - off + 1 by omega, take_more l _ hk, h6]; unfold sofar; simp

def rfOut (neg : Bool) (l : List UInt8) : Ending := .returned (.tuple #[.int .u64 ((rfX neg l : Nat) : Int), .int .i64 (rfE l)])
theorem out_bad (neg : Bool) (l : List UInt8) (h : good l = false) : rfOut neg l = .returned (.tuple #[.int .u64 0, .int .i64 2]) := by
  unfold rfOut rfX rfE; rw [h]; rfl

theorem out_big (neg : Bool) (l : List UInt8) (h : good l = true) (hb : 15 < (ahd l).length + (bhd l).length) : rfOut neg l = .returned (.tuple #[.int .u64 0, .int .i64 4]) := by
  unfold rfOut rfX rfE; rw [if_pos h, if_pos h, if_neg (by omega), if_neg (by omega)]; rfl
theorem out_ok (neg : Bool) (l : List UInt8) (h : good l = true) (hb : (ahd l).length + (bhd l).length ≤ 15) : rfOut neg l = .returned (.tuple #[.int .u64 (((if neg then opp (quoN l) else quoN l : Nat)) : Int), .int .i64 0]) := by
  have e : negW (quoN l) = opp (quoN l) := by simp [negW, quoN_num l h hb]
  unfold rfOut rfX rfE; rw [if_pos h, if_pos h, if_pos hb, if_pos hb, e]
theorem n_start : fN (nTo [] []) = 0 := by decide +kernel
theorem t_start : fN (tTo []) = 4607182418800017408 := by decide +kernel
theorem ten_pos (c : List UInt8) (h : c.length ≤ 15) : tTo c = 10 ^ c.length := by unfold tTo; rw [Nat.min_eq_left h]
theorem nTo_all (a c : List UInt8) (h : a.length + c.length ≤ 15) : nTo a c = valN (a ++ c) := by unfold nTo; rw [List.take_of_length_le (by rw [List.length_append]; omega)]
theorem size_of_pre (pre l : List UInt8) (o : Nat) (h : pre.length = o) : (st (pre ++ l)).size = o + l.length := by rw [st_size, List.length_append, h]
theorem u8_ne46 {ch : UInt8} (h : ch ≠ 46) : (((ch.toNat : Nat) : Int) == 46) = false := by
  rw [beq_eq_false_iff_ne]
  intro e
  exact h (UInt8.toNat_inj.1 (by simpa using (by omega : ch.toNat = 46)))
set_option maxRecDepth 100000 in
set_option maxHeartbeats 8000000 in
theorem refRead_plain (S : ByteArray) (l : List UInt8) (hsz : S.size = 0 + l.length) (hs : l.length ≤ 2000) (HB : Hid (∀ (j : Nat), 0 ≤ j → j - 0 < l.length → ∀ h : j < S.size, S[j] = l[j - 0])) (hz : (0 : Int) < (S.size : Int)) (h0 : 0 < S.size) (h45 : ((S[0].toNat : Int) == 45) = false) (w : World) : Calls Try.prog 42 #[.string S] w fun e w' => e = rfOut false l ∧ ∃ n, w' = w.drewN n := by
  go_enter Try.func42, Try.ntmps42
  go_wp2_with fail
  go_loop [5, 6, 7, 8, 9, 10, 11] (fun i v t d ah bh pt => ∃ (j : Nat) (P : Bool) (a c : List UInt8), Sofar l 0 j P a c ∧ i = .int .i64 j ∧ v = .float .f64 (fN (nTo a c)) ∧ t = .float .f64 (fN (tTo c)) ∧ d = .int .i64 ((a.length + c.length : Nat) : Int) ∧ ah = .int .i64 (a.length : Int) ∧ bh = .int .i64 (c.length : Int) ∧ pt = .bool P) (fun i _ _ _ _ _ _ => S.size - (intOf i).toNat)
  case atStart => exact ⟨0, false, [], [], ⟨by omega, by omega, rfl, rfl, fun _ => rfl, by simp [sofar]⟩, rfl, by rw [n_start], by rw [t_start], rfl, rfl, rfl, rfl⟩
  case round =>
    obtain ⟨j, P, a, c, hS, rfl, rfl, rfl, rfl, rfl, rfl, rfl⟩ := hrel
    have hln := sofar_len P a c l (j - 0) hS.2.2.2.2.2 hS.2.2.2.2.1 hS.2.1
    have hj := hS.1
    have hj2 := hS.2.1
    have HS := Lib.hid (fun _ : True => hS)
    clear hS
    by_cases hlt : j < S.size
    · have hk : j - 0 < l.length := by omega
      have hx : S[j] = l[j - 0] := HB.out j (by omega) (by omega) hlt
      by_cases e46 : l[j - 0] = 46
      · have x1 : ((S[j].toNat : Int) == 46) = true := by rw [hx, e46]; rfl
        have E46 := Lib.hid (fun _ : True => e46)
        cases P
        · obtain rfl : c = [] := (HS.out trivial).2.2.2.2.1 rfl
          clear hx e46
          go_wp2_with fail
          go_round
          case rel => exact ⟨j + 1, true, a, [], sofar_pt (HS.out trivial) hk (E46.out trivial), by go_num, rfl, rfl, rfl, rfl, rfl, rfl⟩
          case measure => simp [intOf]; omega
        · have x2 : (S[j].toNat : Int) < 48 := by rw [hx, e46]; decide
          have HO := Lib.hid (fun _ : True => out_bad false l (sofar_bad (HS.out trivial) hk (by rw [e46]; decide) (fun _ => rfl)))
          clear hx e46
          go_wp2_with fail
          go_ret2
          exact ⟨(HO.out trivial).symm, 0, rfl⟩
      · have x1 : ((S[j].toNat : Int) == 46) = false := by rw [hx]; exact u8_ne46 e46
        have N46 := Lib.hid e46
        clear e46
        by_cases lo : l[j - 0].toNat < 48
        · have x2 : (S[j].toNat : Int) < 48 := by rw [hx]; omega
          have HO := Lib.hid (fun _ : True => out_bad false l (sofar_bad (HS.out trivial) hk (dgB_lo _ (by omega)) (fun e => absurd e N46.out)))
          clear hx lo
          go_wp2_with fail
          go_ret2
          exact ⟨(HO.out trivial).symm, 0, rfl⟩
        · by_cases hi : 57 < l[j - 0].toNat
          · have x2 : (57 : Int) < (S[j].toNat : Int) := by rw [hx]; omega
            have x3 : (48 : Int) ≤ (S[j].toNat : Int) := by rw [hx]; omega
            have HO := Lib.hid (fun _ : True => out_bad false l (sofar_bad (HS.out trivial) hk (dgB_hi _ (by omega)) (fun e => absurd e N46.out)))
            clear hx lo hi
            go_wp2_with fail
            go_ret2
            exact ⟨(HO.out trivial).symm, 0, rfl⟩
          · have x2 : (48 : Int) ≤ (S[j].toNat : Int) := by rw [hx]; omega
            have x3 : (S[j].toNat : Int) ≤ 57 := by rw [hx]; omega
            have hd : Hid (True → dgB l[j - 0] = true) := Lib.hid fun _ => dgB_in _ (by omega) (by omega)
            obtain ⟨dg, hdg⟩ : ∃ dg : Nat, dg = l[j - 0].toNat - 48 := ⟨_, rfl⟩
            have hcv := conv8_run dg ((S[j].toNat : Int) - 48) (by rw [hx]; omega)
            have hdb : dg ≤ 9 := by omega
            have HDG := Lib.hid (fun _ : True => hdg)
            clear hdg
            have ha := (HS.out trivial).2.2.1
            have hc := (HS.out trivial).2.2.2.1
            by_cases few : a.length + c.length ≤ 14
            · have hn := nTo_lt a c ha hc few
              have hm := mul10_run (nTo a c) (by omega)
              have hadd := addN_run (nTo a c * 10) dg (by omega)
              clear hx lo hi ha hc
              cases P
              · obtain rfl : c = [] := (HS.out trivial).2.2.2.2.1 rfl
                have few2 : a.length ≤ 14 := by simpa using few
                have HN : Hid (True → nTo (a ++ [l[j - 0]]) [] = nTo a [] * 10 + dg) := Lib.hid fun _ => by rw [HDG.out trivial]; exact nTo_few (a ++ []) (a ++ [l[j - 0]] ++ []) l[j - 0] (by rw [List.length_append]; exact few) (by simp)
                go_wp2_with fail
                go_round
                case rel => exact ⟨j + 1, false, a ++ [l[j - 0]], [], sofar_ahead (HS.out trivial) hk (hd.out trivial), by go_num, by rw [HN.out trivial], rfl, by rw [List.length_append, List.length_singleton]; exact ret_val (by simp only [List.length_nil]; omega), by rw [List.length_append, List.length_singleton]; exact ret_val (by omega), rfl, rfl⟩
                case measure => simp [intOf]; omega
              · have HN : Hid (True → nTo a (c ++ [l[j - 0]]) = nTo a c * 10 + dg) := Lib.hid fun _ => by rw [HDG.out trivial]; exact nTo_few (a ++ c) (a ++ (c ++ [l[j - 0]])) l[j - 0] (by rw [List.length_append]; exact few) (by simp)
                have HT := Lib.hid (fun _ : True => tTo_few c l[j - 0] (by omega))
                have ht := mul10_run (tTo c) (tTo_le c (by omega))
                go_wp2_with fail
                go_round
                case rel => exact ⟨j + 1, true, a, c ++ [l[j - 0]], sofar_behind (HS.out trivial) hk (hd.out trivial), by go_num, by rw [HN.out trivial], by rw [HT.out trivial], by rw [List.length_append, List.length_singleton]; exact ret_val (by omega), rfl, by rw [List.length_append, List.length_singleton]; exact ret_val (by omega), rfl⟩
                case measure => simp [intOf]; omega
            · clear hx lo hi ha hc hcv
              cases P
              · obtain rfl : c = [] := (HS.out trivial).2.2.2.2.1 rfl
                have few2 : 15 ≤ a.length := by simp at few; omega
                have HN : Hid (True → nTo (a ++ [l[j - 0]]) [] = nTo a []) := Lib.hid fun _ => nTo_many (a ++ []) (a ++ [l[j - 0]] ++ []) l[j - 0] (by rw [List.length_append]; omega) (by simp)
                go_wp2_with fail
                go_round
                case rel => exact ⟨j + 1, false, a ++ [l[j - 0]], [], sofar_ahead (HS.out trivial) hk (hd.out trivial), by go_num, by rw [HN.out trivial], rfl, by rw [List.length_append, List.length_singleton]; exact ret_val (by simp only [List.length_nil]; omega), by rw [List.length_append, List.length_singleton]; exact ret_val (by omega), rfl, rfl⟩
                case measure => simp [intOf]; omega
              · have HN : Hid (True → nTo a (c ++ [l[j - 0]]) = nTo a c) := Lib.hid fun _ => nTo_many (a ++ c) (a ++ (c ++ [l[j - 0]])) l[j - 0] (by rw [List.length_append]; omega) (by simp)
                by_cases tf : c.length ≤ 14
                · have HT := Lib.hid (fun _ : True => tTo_few c l[j - 0] tf)
                  have ht := mul10_run (tTo c) (tTo_le c tf)
                  go_wp2_with fail
                  go_round
                  case rel => exact ⟨j + 1, true, a, c ++ [l[j - 0]], sofar_behind (HS.out trivial) hk (hd.out trivial), by go_num, by rw [HN.out trivial], by rw [HT.out trivial], by rw [List.length_append, List.length_singleton]; exact ret_val (by omega), rfl, by rw [List.length_append, List.length_singleton]; exact ret_val (by omega), rfl⟩
                  case measure => simp [intOf]; omega
                · have HT := Lib.hid (fun _ : True => tTo_many c l[j - 0] (by omega))
                  go_wp2_with fail
                  go_round
                  case rel => exact ⟨j + 1, true, a, c ++ [l[j - 0]], sofar_behind (HS.out trivial) hk (hd.out trivial), by go_num, by rw [HN.out trivial], by rw [HT.out trivial], by rw [List.length_append, List.length_singleton]; exact ret_val (by omega), rfl, by rw [List.length_append, List.length_singleton]; exact ret_val (by omega), rfl⟩
                  case measure => simp [intOf]; omega
    · have hall : Hid (True → l = sofar P a c) := Lib.hid fun _ => by
        have := (HS.out trivial).2.2.2.2.2
        rwa [List.take_of_length_le (by omega)] at this
      have ha := (HS.out trivial).2.2.1
      have hc := (HS.out trivial).2.2.2.1
      cases P
      · obtain rfl : c = [] := (HS.out trivial).2.2.2.2.1 rfl
        have HO := Lib.hid (fun _ : True => out_bad false l (end_no a l ha (hall.out trivial)))
        clear ha hc
        go_wp2_with fail
        go_ret2
        exact ⟨(HO.out trivial).symm, 0, rfl⟩
      · have HG := Lib.hid (fun _ : True => end_good a c l ha hc (hall.out trivial))
        obtain ⟨HA1, HA2⟩ : Hid (True → ahd l = a) ∧ Hid (True → bhd l = c) := ⟨Lib.hid fun _ => (end_yes a c l ha (hall.out trivial)).1, Lib.hid fun _ => (end_yes a c l ha (hall.out trivial)).2⟩
        clear ha hc
        by_cases za : a.length = 0
        · have y1 : ((a.length : Int) == 0) = true := by rw [za]; rfl
          have HO := Lib.hid (fun _ : True => out_bad false l (by rw [HG.out trivial, za]; rfl))
          clear za
          go_wp2_with fail
          go_ret2
          exact ⟨(HO.out trivial).symm, 0, rfl⟩
        · have y1 : ((a.length : Int) == 0) = false := by rw [beq_eq_false_iff_ne]; omega
          by_cases zc : c.length = 0
          · have y2 : ((c.length : Int) == 0) = true := by rw [zc]; rfl
            have HO := Lib.hid (fun _ : True => out_bad false l (by rw [HG.out trivial, zc]; simp))
            clear zc
            go_wp2_with fail
            go_ret2
            exact ⟨(HO.out trivial).symm, 0, rfl⟩
          · have y2 : ((c.length : Int) == 0) = false := by rw [beq_eq_false_iff_ne]; omega
            have hgood : Hid (True → good l = true) := Lib.hid fun _ => by
              have g1 : (a.length == 0) = false := by rw [beq_eq_false_iff_ne]; exact za
              have g2 : (c.length == 0) = false := by rw [beq_eq_false_iff_ne]; exact zc
              rw [HG.out trivial, g1, g2]; rfl
            by_cases big : 15 < a.length + c.length
            · have HO := Lib.hid (fun _ : True => out_big false l (hgood.out trivial) (by rw [HA1.out trivial, HA2.out trivial]; exact big))
              go_wp2_with fail
              go_ret2
              exact ⟨(HO.out trivial).symm, 0, rfl⟩
            · have HO := Lib.hid (fun _ : True => out_ok false l (hgood.out trivial) (by rw [HA1.out trivial, HA2.out trivial]; omega))
              obtain ⟨r, n, hrun, hr⟩ := arith_run .quo (by simp) 38 (fN (nTo a c)) (fN (tTo c)) w
              have HR : Hid (True → canon r = quoN l) := Lib.hid fun _ => by
                rw [hr, nTo_all a c (by omega), ten_pos c (by omega)]
                unfold quoN
                rw [HA1.out trivial, HA2.out trivial]
              have HL := Lib.hid (quoN_lt l)
              clear hr
              go_wp2_with (go_at_call 40; refine (refOf_any _ _).mono ?_; rintro e w' ⟨rfl, rfl⟩)
              go_ret2
              refine ⟨?_, n, rfl⟩
              rw [HO.out trivial]
              show Ending.returned (.tuple #[.int .u64 ((canon r : Nat) : Int), .int .i64 0]) = _
              rw [HR.out trivial]; rfl
end Go.Proofs.Ytodpglladcblhaa
