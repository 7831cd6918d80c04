/- The contract of the program's ReadFloat. -/
import Derived.Test.YtodpglladcblhaaRead
import Derived.Test.YtodpglladcblhaaZeros
import Derived.Test.YtodpglladcblhaaBits
namespace Go.Proofs.Ytodpglladcblhaa
open Go.ChangeShapes Go.WideShapes Go.ChangeAt Go.RowKit

/-- digits' number -/
def valN (l : List UInt8) : Nat := l.foldl (fun n c => n * 10 + (c.toNat - 48)) 0
theorem valN_snoc (l : List UInt8) (c : UInt8) : valN (l ++ [c]) = valN l * 10 + (c.toNat - 48) := by simp [valN]
theorem val_acc (l : List UInt8) : ∀ (n j : Nat), l.all dgB = true → n < 10 ^ j → l.foldl (fun n c => n * 10 + (c.toNat - 48)) n < 10 ^ (j + l.length) := by
  induction l with
  | nil => intro n j _ h; simpa using h
  | cons c l ih =>
    intro n j h hn
    rw [List.all_cons, Bool.and_eq_true] at h
    have hc : dgB c = true := h.1
    unfold dgB at hc
    simp at hc
    have := ih (n * 10 + (c.toNat - 48)) (j + 1) h.2 (by rw [Nat.pow_succ]; omega)
    rw [List.foldl_cons, List.length_cons, show j + (l.length + 1) = j + 1 + l.length by omega]
    exact this
theorem valN_lt (l : List UInt8) (h : l.all dgB = true) : valN l < 10 ^ l.length := by
  have := val_acc l 0 0 h (by decide)
  rwa [Nat.zero_add] at this
def noPt (c : UInt8) : Bool := c != 46
/-- what stands ahead of the first point, and behind it -/
def ahd (l : List UInt8) : List UInt8 := l.takeWhile noPt
def bhd (l : List UInt8) : List UInt8 := (l.dropWhile noPt).drop 1
/-- an integer's float, of no less than nothing -/
def fN (n : Nat) : Nat := Fl.D.nearest false n 0
def quoN (l : List UInt8) : Nat := fl (floatBits .quo .f64 (fN (valN (ahd l ++ bhd l))) (fN (10 ^ (bhd l).length)))
def good (l : List UInt8) : Bool := digs (ahd l) && digs (bhd l)
/-- what ReadFloat tells of what stands behind the sign -/
def rfX (neg : Bool) (l : List UInt8) : Nat := if good l then if (ahd l).length + (bhd l).length ≤ 15 then if neg then negW (quoN l) else quoN l else 0 else 0
def rfE (l : List UInt8) : Int := if good l then if (ahd l).length + (bhd l).length ≤ 15 then 0 else 4 else 2
theorem split_not (l : List UInt8) (h : 46 ∉ l) : ahd l = l ∧ bhd l = [] := by
  unfold ahd bhd
  induction l with
  | nil => exact ⟨rfl, rfl⟩
  | cons c l ih =>
    have hc : noPt c = true := by unfold noPt; rw [bne_iff_ne]; rintro rfl; exact h List.mem_cons_self
    obtain ⟨h1, h2⟩ := ih fun hm => h (List.mem_cons_of_mem _ hm)
    rw [List.takeWhile_cons_of_pos hc, List.dropWhile_cons_of_pos hc, h1, h2]
    exact ⟨rfl, rfl⟩
theorem split_at (a b : List UInt8) (h : 46 ∉ a) : ahd (a ++ 46 :: b) = a ∧ bhd (a ++ 46 :: b) = b := by
  unfold ahd bhd
  induction a with
  | nil => simp [noPt]
  | cons c l ih =>
    have hc : noPt c = true := by unfold noPt; rw [bne_iff_ne]; rintro rfl; exact h List.mem_cons_self
    obtain ⟨h1, h2⟩ := ih fun hm => h (List.mem_cons_of_mem _ hm)
    rw [List.cons_append, List.takeWhile_cons_of_pos hc, List.dropWhile_cons_of_pos hc, h1, h2]
    exact ⟨rfl, rfl⟩
theorem split_or (l : List UInt8) : 46 ∉ l ∨ ∃ a b, l = a ++ 46 :: b ∧ 46 ∉ a := by
  induction l with
  | nil => exact .inl (by simp)
  | cons c l ih =>
    by_cases hc : c = 46
    · exact .inr ⟨[], l, by rw [hc]; rfl, by simp⟩
    · rcases ih with h | ⟨a, b, e, ha⟩
      · refine .inl fun hm => ?_
        rcases List.mem_cons.1 hm with h' | h'
        · exact hc h'.symm
        · exact h h'
      · refine .inr ⟨c :: a, b, by rw [e]; rfl, fun hm => ?_⟩
        rcases List.mem_cons.1 hm with h' | h'
        · exact hc h'.symm
        · exact ha h'

/-- Cut at the point, whatever the text -/
theorem cut_all (l : List UInt8) (hs : l.length ≤ 2000) : ∃ f : Bool, ∀ w, Calls Try.prog 52 #[.string (st l), .string { data := #[46] }] w fun e w' => e = .returned (.tuple #[.string (st (ahd l)), .string (st (bhd l)), .bool f]) ∧ ∃ n, w' = w.drewN n := by
  rcases split_or l with h | ⟨a, b, rfl, h⟩
  · obtain ⟨h1, h2⟩ := split_not l h
    rw [h1, h2]
    exact ⟨false, fun w => cut_no l h w⟩
  · obtain ⟨h1, h2⟩ := split_at a b h
    rw [h1, h2]
    exact ⟨true, fun w => cut_yes a b hs h w⟩
theorem ahd_le (l : List UInt8) : (ahd l).length ≤ l.length := by
  rcases split_or l with h | ⟨a, b, rfl, h⟩
  · rw [(split_not l h).1]; exact Nat.le_refl _
  · rw [(split_at a b h).1]; simp
theorem bhd_le (l : List UInt8) : (bhd l).length ≤ l.length := by
  rcases split_or l with h | ⟨a, b, rfl, h⟩
  · rw [(split_not l h).2]; simp
  · rw [(split_at a b h).2]; simp; omega

/-- the sign's byte -/
def sgL (neg : Bool) (l : List UInt8) : List UInt8 := if neg then 45 :: l else l
theorem cutPrefix_all (neg : Bool) (l : List UInt8) (hs : l.length ≤ 2000) (hl : neg = false → ∀ t, l ≠ 45 :: t) (w : World) : Calls Try.prog 51 #[.string (st (sgL neg l)), .string { data := #[45] }] w fun e w' => e = .returned (.tuple #[.string (st l), .bool neg]) ∧ w = w' := by
  cases neg
  · exact cutPrefix_no l hs (hl rfl) w
  · exact cutPrefix_yes l hs w
theorem digits_all (l : List UInt8) (hs : l.length ≤ 2000) (w : World) : Calls Try.prog 53 #[.string (st l)] w fun e w' => e = .returned (.bool (digs l)) ∧ w = w' := by
  have := isDigits_any (st l) (by rw [st_size]; exact hs) w
  rwa [st_list] at this

theorem readF_no (neg : Bool) (l : List UInt8) (hs : l.length ≤ 2000) (hl : neg = false → ∀ t, l ≠ 45 :: t) (hg : good l = false) (w : World) :
    Calls Try.prog 41 #[.string (st (sgL neg l))] w fun e w' => e = .returned (.tuple #[.int .u64 0, .int .i64 2]) ∧ ∃ n, w' = w.drewN n := by
  obtain ⟨f, hc⟩ := cut_all l hs
  have HC := Lib.hid hc
  have HP := Lib.hid (cutPrefix_all neg l hs hl)
  have HA := Lib.hid (digits_all (ahd l) (Nat.le_trans (ahd_le l) hs))
  have HB := Lib.hid (digits_all (bhd l) (Nat.le_trans (bhd_le l) hs))
  unfold good at hg
  clear hc hl hs
  generalize st (sgL neg l) = S at *
  generalize st (ahd l) = A at *
  generalize st (bhd l) = B at *
  cases h : digs (ahd l)
  case' true => have h2 : digs (bhd l) = false := by rw [h] at hg; simpa using hg
  all_goals
    clear hg
    go_enter Try.func41, Try.ntmps41
    go_wp2_with (first
      | (go_at_call 51; refine (HP.out _).mono ?_; rintro e w' ⟨rfl, rfl⟩)
      | (go_at_call 52; refine (HC.out _).mono ?_; rintro e w' ⟨rfl, n, rfl⟩)
      | (go_at_call 53; first | (with_reducible refine (HA.out _).mono ?_; rintro e w' ⟨rfl, rfl⟩) | (with_reducible refine (HB.out _).mono ?_; rintro e w' ⟨rfl, rfl⟩)))
    go_ret2
    exact ⟨rfl, _, rfl⟩
theorem readF_big (neg : Bool) (l : List UInt8) (hs : l.length ≤ 2000) (hl : neg = false → ∀ t, l ≠ 45 :: t) (hg : good l = true) (hb : 15 < (ahd l).length + (bhd l).length) (w : World) :
    Calls Try.prog 41 #[.string (st (sgL neg l))] w fun e w' => e = .returned (.tuple #[.int .u64 0, .int .i64 4]) ∧ ∃ n, w' = w.drewN n := by
  obtain ⟨f, hc⟩ := cut_all l hs
  have HC := Lib.hid hc
  have HP := Lib.hid (cutPrefix_all neg l hs hl)
  have HA := Lib.hid (digits_all (ahd l) (Nat.le_trans (ahd_le l) hs))
  have HB := Lib.hid (digits_all (bhd l) (Nat.le_trans (bhd_le l) hs))
  have b1 := Nat.le_trans (ahd_le l) hs
  have b2 := Nat.le_trans (bhd_le l) hs
  have z1 := st_size (ahd l)
  have z2 := st_size (bhd l)
  unfold good at hg
  rw [Bool.and_eq_true] at hg
  obtain ⟨d1, d2⟩ := hg
  clear hc hl hs
  generalize st (sgL neg l) = S at *
  generalize st (ahd l) = A at *
  generalize st (bhd l) = B at *
  go_enter Try.func41, Try.ntmps41
  go_wp2_with (first
    | (go_at_call 51; refine (HP.out _).mono ?_; rintro e w' ⟨rfl, rfl⟩)
    | (go_at_call 52; refine (HC.out _).mono ?_; rintro e w' ⟨rfl, n, rfl⟩)
    | (go_at_call 53; first | (with_reducible refine (HA.out _).mono ?_; rintro e w' ⟨rfl, rfl⟩) | (with_reducible refine (HB.out _).mono ?_; rintro e w' ⟨rfl, rfl⟩)))
  go_ret2
  exact ⟨rfl, _, rfl⟩

theorem all_of_digs {l : List UInt8} (h : digs l = true) : l.all dgB = true := by unfold digs at h; rw [Bool.and_eq_true] at h; exact h.2
theorem dg_of (l : List UInt8) (h : l.all dgB = true) (k : Nat) (hk : k < l.length) : 48 ≤ l[k].toNat ∧ l[k].toNat ≤ 57 := by
  have := List.all_eq_true.1 h l[k] (List.getElem_mem hk)
  unfold dgB at this
  simpa using this
theorem pow_le_15 {n : Nat} (h : n ≤ 15) : 10 ^ n ≤ 1000000000000000 := (Nat.pow_le_pow_right (by decide) h : 10 ^ n ≤ 10 ^ 15)
theorem valN_take (l : List UInt8) (k : Nat) (hk : k < l.length) : valN (l.take (k + 1)) = valN (l.take k) * 10 + (l[k].toNat - 48) := by
  rw [List.take_succ_eq_append_getElem hk, valN_snoc]
theorem all_take (l : List UInt8) (k : Nat) (h : l.all dgB = true) : (l.take k).all dgB = true := by
  rw [List.all_eq_true] at *
  exact fun x hx => h x (List.mem_of_mem_take hx)
theorem valN_take_lt (l : List UInt8) (k : Nat) (h : l.all dgB = true) (hk : k ≤ 14) : valN (l.take k) < 100000000000000 := by
  have h1 := valN_lt (l.take k) (all_take l k h)
  have h2 : 10 ^ (l.take k).length ≤ 10 ^ 14 := Nat.pow_le_pow_right (by decide) (by rw [List.length_take]; omega)
  exact Nat.lt_of_lt_of_le h1 h2
theorem fN_is (n : Nat) (h : n ≤ 9007199254740992) : canon (fz (w63 (n : Int))) = fN n := by
  have e : w63 (n : Int) = n := by unfold w63; omega
  rw [e, (fz_back (n : Int) (by omega) (by omega)).1]
  show Fl.D.nearest (decide ((n : Int) < 0)) (n : Int).natAbs 0 = _
  rw [decide_eq_false (by omega), Int.natAbs_natCast]; rfl

theorem fl_lt (o : Option Nat) (h : ∀ r, o = some r → r < 18446744073709551616) : fl o < 18446744073709551616 := by
  cases o with
  | none => decide
  | some r =>
    show canon r < _
    unfold canon
    split
    · decide
    · exact h r rfl
theorem quoN_lt (l : List UInt8) : quoN l < 18446744073709551616 := fl_lt _ fun _ h => FloatKind.f64.format.div_lt h
def vTo (a b : List UInt8) (k : Nat) : Nat := valN (a ++ b.take k)
def tenTo (k : Nat) : Nat := 10 ^ k
theorem vTo_step (a b : List UInt8) (k : Nat) (hk : k < b.length) : vTo a b (k + 1) = vTo a b k * 10 + (b[k].toNat - 48) := by
  unfold vTo
  rw [List.take_succ_eq_append_getElem hk, ← List.append_assoc, valN_snoc]
theorem vTo_lt (a b : List UInt8) (k : Nat) (ha : a.all dgB = true) (hb : b.all dgB = true) (h : a.length + k ≤ 14) : vTo a b k < 100000000000000 := by
  have h1 := valN_lt (a ++ b.take k) (by rw [List.all_append, ha, all_take b k hb]; rfl)
  have h2 : 10 ^ (a ++ b.take k).length ≤ 10 ^ 14 := Nat.pow_le_pow_right (by decide) (by rw [List.length_append, List.length_take]; omega)
  exact Nat.lt_of_lt_of_le h1 h2
theorem tenTo_le (k : Nat) (h : k ≤ 14) : tenTo k ≤ 100000000000000 := (Nat.pow_le_pow_right (by decide) h : 10 ^ k ≤ 10 ^ 14)
theorem vTo_all (a b : List UInt8) : vTo a b b.length = valN (a ++ b) := by unfold vTo; rw [List.take_of_length_le (Nat.le_refl _)]
theorem byte_at (b : List UInt8) (hb : b.all dgB = true) (k : Nat) (hk : k < b.length) : ∀ h : k < (st b).size, (48 : Int) ≤ ((st b)[k].toNat : Int) ∧ ((st b)[k].toNat : Int) ≤ 57 ∧ (st b)[k].toNat = b[k].toNat := by
  intro h
  have e : (st b)[k] = b[k] := by rw [get_list (st b) k h]; simp only [st_list]; rfl
  have := dg_of b hb k hk
  rw [e]
  exact ⟨by omega, by omega, rfl⟩
theorem quo_all (l : List UInt8) (h : good l = true) (hb : (ahd l).length + (bhd l).length ≤ 15) :
    fl (floatBits .quo .f64 (canon (fz (w63 ((vTo (ahd l) (bhd l) (bhd l).length : Nat) : Int)))) (canon (fz (w63 ((tenTo (bhd l).length : Nat) : Int))))) = quoN l := by
  unfold good at h
  rw [Bool.and_eq_true] at h
  have h1 := valN_lt (ahd l ++ bhd l) (by rw [List.all_append, all_of_digs h.1, all_of_digs h.2]; rfl)
  have h2 := pow_le_15 (n := (ahd l ++ bhd l).length) (by rw [List.length_append]; omega)
  have h3 := pow_le_15 (n := (bhd l).length) (by omega)
  rw [vTo_all, fN_is _ (by omega), fN_is _ (by unfold tenTo; omega)]
  rfl

set_option maxRecDepth 100000 in
set_option maxHeartbeats 1000000 in
theorem readF_ok (neg : Bool) (l : List UInt8) (hs : l.length ≤ 2000) (hl : neg = false → ∀ t, l ≠ 45 :: t) (hg : good l = true) (hb : (ahd l).length + (bhd l).length ≤ 15) (w : World) :
    Calls Try.prog 41 #[.string (st (sgL neg l))] w fun e w' => e = .returned (.tuple #[.int .u64 ((if neg then negW (quoN l) else quoN l : Nat) : Int), .int .i64 0]) ∧ ∃ n, w' = w.drewN n := by
  obtain ⟨f, hc⟩ := cut_all l hs
  have HC := Lib.hid hc
  have HP := Lib.hid (cutPrefix_all neg l hs hl)
  have HA := Lib.hid (digits_all (ahd l) (Nat.le_trans (ahd_le l) hs))
  have HB := Lib.hid (digits_all (bhd l) (Nat.le_trans (bhd_le l) hs))
  have HQ := Lib.hid (fun _ : True => quo_all l hg hb)
  have HN := Lib.hid (neg_any (quoN l) (quoN_lt l))
  have b1 := Nat.le_trans (ahd_le l) hs
  have b2 := Nat.le_trans (bhd_le l) hs
  have z1 := st_size (ahd l)
  have z2 := st_size (bhd l)
  unfold good at hg
  rw [Bool.and_eq_true] at hg
  obtain ⟨d1, d2⟩ := hg
  have D1 := Lib.hid (all_of_digs d1)
  have D2 := Lib.hid (all_of_digs d2)
  clear hc hl hs
  generalize ahd l = a at *
  generalize bhd l = b at *
  go_enter Try.func41, Try.ntmps41
  go_wp2_with (first
    | (go_at_call 51; refine (HP.out _).mono ?_; rintro e w' ⟨rfl, rfl⟩)
    | (go_at_call 52; refine (HC.out _).mono ?_; rintro e w' ⟨rfl, n, rfl⟩)
    | (go_at_call 53; first | (with_reducible refine (HA.out _).mono ?_; rintro e w' ⟨rfl, rfl⟩) | (with_reducible refine (HB.out _).mono ?_; rintro e w' ⟨rfl, rfl⟩)))
  clear HC HP HA HB d1 d2
  go_loop [9, 11, 41] (fun v u i => ∃ k : Nat, k ≤ a.length ∧ i = .int .i64 k ∧ v = .int .i64 ((vTo [] a k : Nat) : Int)) (fun _ _ i => a.length - (intOf i).toNat)
  case atStart => exact ⟨0, by omega, rfl, rfl⟩
  case round =>
    obtain ⟨k, hk, rfl, rfl⟩ := hrel
    by_cases hlt : k < a.length
    · have hv := vTo_lt [] a k rfl D1.out (by simp; omega)
      have HS := Lib.hid (vTo_step [] a k hlt)
      have hsz : k < (st a).size := by omega
      obtain ⟨y1, y2, y3⟩ := byte_at a D1.out k hlt hsz
      have Y3 := Lib.hid y3
      clear y3
      go_wp2_with fail
      go_round
      case rel => exact ⟨k + 1, by omega, by go_num, by rw [HS.out]; exact ret_val (by have := Y3.out; omega)⟩
      case measure => simp [intOf]; omega
    · obtain rfl : k = a.length := by omega
      have h0 : Hid (vTo [] a a.length = vTo a b 0) := Lib.hid (by unfold vTo; rw [List.take_of_length_le (Nat.le_refl _)]; simp)
      have h0' := h0.out
      go_wp2_with fail
      clear h0'
      go_loop [9, 10, 12, 55] (fun v t u i => ∃ k : Nat, k ≤ b.length ∧ i = .int .i64 k ∧ v = .int .i64 ((vTo a b k : Nat) : Int) ∧ t = .int .i64 ((tenTo k : Nat) : Int)) (fun _ _ _ i => b.length - (intOf i).toNat)
      case atStart => exact ⟨0, by omega, rfl, rfl, rfl⟩
      case round =>
        obtain ⟨k, hk, rfl, rfl, rfl⟩ := hrel
        by_cases hlt : k < b.length
        · have hv := vTo_lt a b k D1.out D2.out (by omega)
          have ht := tenTo_le k (by omega)
          have HS := Lib.hid (vTo_step a b k hlt)
          have HT : Hid (tenTo (k + 1) = tenTo k * 10) := Lib.hid (Nat.pow_succ ..)
          have hsz : k < (st b).size := by omega
          obtain ⟨y1, y2, y3⟩ := byte_at b D2.out k hlt hsz
          have Y3 := Lib.hid y3
          clear y3
          go_wp2_with fail
          go_round
          case rel => exact ⟨k + 1, by omega, by go_num, by rw [HS.out]; exact ret_val (by have := Y3.out; omega), by rw [HT.out]; exact ret_val (by omega)⟩
          case measure => simp [intOf]; omega
        · obtain rfl : k = b.length := by omega
          go_wp2_with (first
            | (go_at_call 39; refine (ofInt_any _ _).mono ?_; rintro e w' ⟨rfl, rfl⟩)
            | (go_at_call 26; refine (over_any _ _ _).mono ?_; rintro e w' ⟨rfl, n2, rfl⟩))
          all_goals rw [HQ.out trivial]
          all_goals first
            | (go_ret2; exact ⟨rfl, _, rfl⟩)
            | (refine (HN.out _).mono ?_
               rintro e w' ⟨rfl, rfl⟩
               go_wp2
               go_ret2
               exact ⟨rfl, _, rfl⟩)
end Go.Proofs.Ytodpglladcblhaa
