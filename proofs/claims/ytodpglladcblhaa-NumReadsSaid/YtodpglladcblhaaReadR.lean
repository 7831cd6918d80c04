/- The contract of the document's ReadFloat; the walk of the law NumReads. -/
import Derived.Test.YtodpglladcblhaaReadF
namespace Go.Proofs.Ytodpglladcblhaa
open Go.ChangeShapes Go.WideShapes Go.ChangeAt Go.RowKit

theorem not_pt (a : List UInt8) (h : a.all dgB = true) : 46 ∉ a := fun hm => by
  have := List.all_eq_true.1 h 46 hm
  exact absurd this (by decide)
/-- what was read so far -/
def sofar (P : Bool) (a c : List UInt8) : List UInt8 := if P then a ++ 46 :: c else a
theorem ahd_more (a m : List UInt8) (h : 46 ∉ a) : ahd (a ++ m) = a ++ ahd m := by
  unfold ahd
  induction a with
  | nil => rfl
  | cons c l ih =>
    have hc : noPt c = true := by unfold noPt; rw [bne_iff_ne]; rintro rfl; exact h List.mem_cons_self
    rw [List.cons_append, List.takeWhile_cons_of_pos hc, ih fun hm => h (List.mem_cons_of_mem _ hm)]; rfl
theorem ahd_cons (c : UInt8) (m : List UInt8) (h : c ≠ 46) : ahd (c :: m) = c :: ahd m := ahd_more [c] m (by simpa using fun e => h e.symm)
theorem good_bad (P : Bool) (a c rest l : List UInt8) (ch : UInt8) (ha : a.all dgB = true) (hl : l = sofar P a c ++ ch :: rest) (hch : dgB ch = false) (h46 : ch = 46 → P = true) : good l = false := by
  unfold good
  cases P
  · have hn : ch ≠ 46 := fun e => absurd (h46 e) (by decide)
    have e : ahd l = a ++ ch :: ahd rest := by rw [hl]; show ahd (a ++ ch :: rest) = _; rw [ahd_more a _ (not_pt a ha), ahd_cons ch rest hn]
    have : digs (ahd l) = false := by unfold digs; rw [e, List.all_append, List.all_cons, hch]; simp
    rw [this]; rfl
  · have e : l = a ++ 46 :: (c ++ ch :: rest) := by rw [hl]; unfold sofar; simp
    have e2 : bhd l = c ++ ch :: rest := by rw [e]; exact (split_at a _ (not_pt a ha)).2
    have : digs (bhd l) = false := by unfold digs; rw [e2, List.all_append, List.all_cons, hch]; simp
    rw [this]; simp
theorem end_no (a l : List UInt8) (ha : a.all dgB = true) (hl : l = sofar false a []) : good l = false := by
  have e : bhd l = [] := by rw [hl]; exact (split_not a (not_pt a ha)).2
  unfold good
  rw [e]; simp [digs]
theorem end_yes (a c l : List UInt8) (ha : a.all dgB = true) (hl : l = sofar true a c) : ahd l = a ∧ bhd l = c := by
  rw [hl]; exact split_at a c (not_pt a ha)
theorem end_good (a c l : List UInt8) (ha : a.all dgB = true) (hc : c.all dgB = true) (hl : l = sofar true a c) : good l = (!(a.length == 0) && !(c.length == 0)) := by
  obtain ⟨e1, e2⟩ := end_yes a c l ha hl
  unfold good digs
  rw [e1, e2, ha, hc]
  cases a <;> cases c <;> simp
theorem sofar_len (P : Bool) (a c l : List UInt8) (k : Nat) (h : l.take k = sofar P a c) (hP : P = false → c = []) (hk : k ≤ l.length) : a.length + c.length ≤ k := by
  have := congrArg List.length h
  rw [List.length_take, Nat.min_eq_left hk] at this
  cases P
  · rw [hP rfl]; unfold sofar at this; simp at this; simp; omega
  · unfold sofar at this; simp at this; omega

/-- the first fifteen digits' number; how many tens -/
def nTo (a c : List UInt8) : Nat := valN ((a ++ c).take 15)
def tTo (c : List UInt8) : Nat := 10 ^ min c.length 15
theorem nTo_lt (a c : List UInt8) (ha : a.all dgB = true) (hc : c.all dgB = true) (h : a.length + c.length ≤ 14) : nTo a c < 100000000000000 := by
  unfold nTo
  rw [List.take_of_length_le (by rw [List.length_append]; omega)]
  have h1 := valN_lt (a ++ c) (by rw [List.all_append, ha, hc]; rfl)
  have h2 : 10 ^ (a ++ c).length ≤ 10 ^ 14 := Nat.pow_le_pow_right (by decide) (by rw [List.length_append]; omega)
  exact Nat.lt_of_lt_of_le h1 h2
theorem nTo_few (w w' : List UInt8) (ch : UInt8) (h : w.length ≤ 14) (e : w' = w ++ [ch]) : valN (w'.take 15) = valN (w.take 15) * 10 + (ch.toNat - 48) := by
  rw [e, List.take_of_length_le (by rw [List.length_append, List.length_singleton]; omega), valN_snoc, List.take_of_length_le (by omega)]
theorem nTo_many (w w' : List UInt8) (ch : UInt8) (h : 15 ≤ w.length) (e : w' = w ++ [ch]) : valN (w'.take 15) = valN (w.take 15) := by
  rw [e, List.take_append_of_le_length h]
theorem tTo_few (c : List UInt8) (ch : UInt8) (h : c.length ≤ 14) : tTo (c ++ [ch]) = tTo c * 10 := by
  unfold tTo
  rw [List.length_append, List.length_singleton, Nat.min_eq_left (by omega), Nat.min_eq_left (by omega), Nat.pow_succ]
theorem tTo_many (c : List UInt8) (ch : UInt8) (h : 15 ≤ c.length) : tTo (c ++ [ch]) = tTo c := by
  unfold tTo
  rw [List.length_append, List.length_singleton, Nat.min_eq_right (by omega), Nat.min_eq_right (by omega)]
theorem tTo_le (c : List UInt8) (h : c.length ≤ 14) : tTo c ≤ 100000000000000 := (Nat.pow_le_pow_right (by decide) (by omega) : 10 ^ min c.length 15 ≤ 10 ^ 14)

/-- the machine's floats, on whole numbers below 2^53 -/
theorem mul10_run (n : Nat) (h : n ≤ 100000000000000) (w : World) : (binOp .mul 38 (.float .f64 (fN n)) (.float .f64 4621819117588971520)).run Try.prog w = .ok (.float .f64 (fN (n * 10))) w := by
  refine run_float_arith w .mul _ .f64 _ _ _ ?_
  have e : (4621819117588971520 : Nat) = fN 10 := by decide +kernel
  rw [e]
  exact Fl.fz_mul n 10 (by omega) (by decide)
theorem addN_run (a b : Nat) (h : a + b < 9007199254740992) (w : World) : (binOp .add 38 (.float .f64 (fN a)) (.float .f64 (fN b))).run Try.prog w = .ok (.float .f64 (fN (a + b))) w :=
  run_float_arith w .add _ .f64 _ _ _ (Fl.fz_add a b h)
theorem conv8_run (d : Nat) (n : Int) (h : n = (d : Int)) (w : World) : (convert 5 38 (.int .u8 n)).run Try.prog w = .ok (.float .f64 (fN d)) w := by
  have hu : (Try.prog.underlying 5).isSome = true := by rw [Try.underlying5]; rfl
  have := run_convert_int_float (P := Try.prog) w 5 38 .u8 .f64 n hu Try.underlying38
  rw [this, h]
  show Result.ok (Value.float .f64 (Fl.D.nearest (decide ((d : Int) < 0)) (d : Int).natAbs 0)) w = _
  rw [decide_eq_false (by omega), Int.natAbs_natCast]; rfl

theorem fN_pos (t : Nat) (h : 0 < t) (h2 : t ≤ 9007199254740992) : ∃ m e, m ≠ 0 ∧ Fl.D.read (fN t) = .number false m e := by
  obtain ⟨m, e, a1, a2, _, a4, a5, a6⟩ := Fl.int_canon t h2
  refine ⟨m, -1074 + (e : Int), ?_, ?_⟩
  · rintro rfl
    rw [Nat.zero_mul] at a5
    have := Nat.mul_pos h Fl.U_pos
    omega
  · unfold fN
    rw [a6, Fl.read_canon false m e a1 a2 (by omega)]
theorem fN_any (n : Nat) (h2 : n ≤ 9007199254740992) : ∃ m e, Fl.D.read (fN n) = .number false m e := by
  obtain ⟨m, e, a1, a2, _, a4, a5, a6⟩ := Fl.int_canon n h2
  exact ⟨m, -1074 + (e : Int), by unfold fN; rw [a6, Fl.read_canon false m e a1 a2 (by omega)]⟩
theorem nearest_num (s : Bool) (m : Nat) (p : Int) : isN (Fl.D.nearest s m p) = false := by
  have key : ∀ r, isN (Fl.D.word s (min r 9218868437227405312)) = false := fun r => by
    unfold isN
    rw [(Fl.word_rung s (min r 9218868437227405312) (by omega)).1]
    exact decide_eq_false (by omega)
  unfold Ieee.Format.nearest
  rw [Fl.ir]
  split
  · have := key 0; rwa [Nat.min_eq_left (by decide)] at this
  · exact key _
theorem quo_num (n t : Nat) (hn : n ≤ 9007199254740992) (h : 0 < t) (h2 : t ≤ 9007199254740992) : isN (fl (floatBits .quo .f64 (fN n) (fN t))) = false := by
  obtain ⟨m, e, hm⟩ := fN_any n hn
  obtain ⟨m', e', hm', hq⟩ := fN_pos t h h2
  rw [quo_is, hm, hq]
  simp only [Ieee.Datum.quotient, if_neg hm', Option.map_some]
  show isN (canon (Fl.D.nearest _ _ _)) = false
  rw [isN_false (nearest_num _ _ _)]
  exact nearest_num _ _ _
theorem quoN_num (l : List UInt8) (h : good l = true) (hb : (ahd l).length + (bhd l).length ≤ 15) : isN (quoN l) = false := by
  unfold good at h
  rw [Bool.and_eq_true] at h
  have h1 := valN_lt (ahd l ++ bhd l) (by rw [List.all_append, all_of_digs h.1, all_of_digs h.2]; rfl)
  have h2 := pow_le_15 (n := (ahd l ++ bhd l).length) (by rw [List.length_append]; omega)
  have h3 := pow_le_15 (n := (bhd l).length) (by omega)
  exact quo_num _ _ (by omega) (Nat.pow_pos (by decide)) (by omega)
end Go.Proofs.Ytodpglladcblhaa
