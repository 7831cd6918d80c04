/- Contracts of both Reads at whatever bytes, and of both Texts. -/
import Derived.Test.YtkimfimcabjjiaaDoorRef
import Derived.Test.YtkimfimcabjjiaaDoorShelf
import Derived.Laws.BytesArg
import Derived.OwnWalk
import Derived.Below
namespace Go.Proofs.YtkimfimcabjjiaaDoor
open Go.ChangeShapes Go.WideShapes Go.ChangeAt Go.RowKit
set_option linter.unusedVariables false

def out (l : List UInt8) : Int × Int := match l with
  | 45 :: t => outD true t
  | l => outD false l
theorem out_neg (t : List UInt8) : out (45 :: t) = outD true t := rfl
theorem out_pos (l : List UInt8) (h : ∀ t, l ≠ 45 :: t) : out l = outD false l := by
  unfold out
  split
  · rename_i t; exact absurd rfl (h t)
  · rfl
theorem read_any (l : List UInt8) (hl : l.length ≤ 2000) (w : World) : Calls Tryd.prog 5 #[.string (st l)] w fun e w' => e = .returned (.tuple #[.int .i64 (out l).1, .int .i64 (out l).2]) ∧ w = w' := by
  by_cases h : ∃ t, l = 45 :: t
  · obtain ⟨t, rfl⟩ := h
    have ht : t.length ≤ 2000 := by simp at hl; omega
    have := read_core (st (45 :: t)) (st t) true (by rw [st_size]; exact ht) w (Lib.hid (cutPrefix_yes t ht w))
    rw [st_list] at this
    exact this
  · have h' : ∀ t, l ≠ 45 :: t := fun t e => h ⟨t, e⟩
    have := read_core (st l) (st l) false (by rw [st_size]; exact hl) w (Lib.hid (cutPrefix_no l hl h' w))
    rw [st_list] at this
    rw [out_pos l h']
    exact this
theorem digs_nil (neg : Bool) : outD neg [] = (0, 2) := rfl
set_option maxRecDepth 20000 in
theorem refRead_empty (s : ByteArray) (hs : s.size = 0) (w : World) : Calls Tryd.prog 6 #[.string s] w fun e w' => e = .returned (.tuple #[.int .i64 0, .int .i64 2]) ∧ w = w' := by
  go_enter Tryd.func6, Tryd.ntmps6
  go_wp2
  go_ret2
  exact ⟨rfl, rfl⟩
set_option maxRecDepth 20000 in
theorem refRead_minus (s : ByteArray) (hs : s.size = 1) (h0 : 0 < s.size) (hb0 : ((s[0].toNat : Int) == 45) = true) (w : World) : Calls Tryd.prog 6 #[.string s] w fun e w' => e = .returned (.tuple #[.int .i64 0, .int .i64 2]) ∧ w = w' := by
  have hgt : decide ((0 : Int) < (s.size : Int)) = true := decide_eq_true (by omega)
  have hz : ((1 : Int) == (s.size : Int)) = true := by simp; omega
  go_enter Tryd.func6, Tryd.ntmps6
  go_wp2
  go_ret2
  exact ⟨rfl, rfl⟩
theorem st_at (l : List UInt8) (j : Nat) (h : j < (st l).size) : (st l)[j] = l[j]'(by rw [st_size] at h; exact h) := by
  rw [get_list (st l) j h]
  simp only [st_list]
theorem refRead_any (l : List UInt8) (hl : l.length ≤ 2000) (w : World) : Calls Tryd.prog 6 #[.string (st l)] w fun e w' => e = .returned (.tuple #[.int .i64 (out l).1, .int .i64 (out l).2]) ∧ w = w' := by
  rcases l with _ | ⟨c, t⟩
  · exact refRead_empty (st []) rfl w
  · have h0 : 0 < (st (c :: t)).size := by rw [st_size]; simp
    have hc0 : (st (c :: t))[0] = c := by rw [st_at]; rfl
    by_cases hc : c = 45
    · subst hc
      have hb0 : (((st (45 :: t))[0].toNat : Int) == 45) = true := by rw [hc0]; rfl
      rcases Nat.eq_zero_or_pos t.length with ht | ht
      · obtain rfl : t = [] := List.length_eq_zero_iff.1 ht
        exact refRead_minus _ rfl h0 hb0 w
      · refine refRead_neg (st (45 :: t)) t (by rw [st_size]; rfl) ht (by rw [st_size]; exact hl) h0 hb0 (Lib.hid fun j h h2 h1 => ?_) w
        rw [st_at]
        obtain ⟨i, rfl⟩ : ∃ i, j = i + 1 := ⟨j - 1, by omega⟩
        rfl
    · have hb0 : (((st (c :: t))[0].toNat : Int) == 45) = false := by
        rw [hc0]
        simp only [beq_eq_false_iff_ne, ne_eq]
        intro e
        exact hc (UInt8.toNat_inj.1 (by show c.toNat = 45; omega))
      rw [out_pos _ (fun u e => hc (by cases e; rfl))]
      refine refRead_pos (st (c :: t)) (c :: t) (by rw [st_size]) (by simp) (by rw [st_size]; exact hl) h0 hb0 (Lib.hid fun j h h2 h1 => ?_) w
      rw [st_at]
theorem ofNat_dig (d : Nat) (h : d < 10) : (UInt8.ofNat (48 + d)).toNat = 48 + d := by
  rw [UInt8.toNat_ofNat']; omega
theorem dec_dig (u : Nat) : (∀ c ∈ Lib.decDigits u, dgB c = true) ∧ val (Lib.decDigits u) = u ∧ 0 < (Lib.decDigits u).length := by
  induction u using Nat.strongRecOn with
  | ind u ih =>
    by_cases h : u < 10
    · rw [Lib.decDigits, dif_pos h]
      refine ⟨fun c hc => ?_, ?_, by simp⟩
      · obtain rfl := List.mem_singleton.1 hc
        rw [dg_of, ofNat_dig u h]; omega
      · show 0 * 10 + ((UInt8.ofNat (48 + u)).toNat - 48) = u
        rw [ofNat_dig u h]; omega
    · rw [Lib.decDigits, dif_neg h]
      obtain ⟨h1, h2, h3⟩ := ih (u / 10) (by omega)
      refine ⟨fun c hc => ?_, ?_, by simp⟩
      · rcases List.mem_append.1 hc with hc | hc
        · exact h1 c hc
        · obtain rfl := List.mem_singleton.1 hc
          rw [dg_of, ofNat_dig _ (Nat.mod_lt _ (by decide))]
          have := Nat.mod_lt u (show 0 < 10 by decide)
          omega
      · rw [val_snoc, h2, ofNat_dig _ (Nat.mod_lt _ (by decide))]; omega
theorem dec_digs (u : Nat) : digs (Lib.decDigits u) = true := by
  obtain ⟨h1, _, h3⟩ := dec_dig u
  unfold digs
  rw [List.all_eq_true.2 h1, Bool.and_true]
  cases hh : Lib.decDigits u with
  | nil => rw [hh] at h3; simp at h3
  | cons c t => rfl
theorem dec_first (u : Nat) : ∀ t, Lib.decDigits u ≠ 45 :: t := fun t e => by
  have h1 := (dec_dig u).1 45 (by rw [e]; simp)
  exact absurd h1 (by decide)
/-- digits come back -/
theorem out_itoa (m : Int) (h1 : -4611686018427387904 ≤ m) (h2 : m ≤ 4611686018427387903) : out (Lib.itoa m) = (m, 0) := by
  unfold Lib.itoa
  split
  · rw [out_neg]
    unfold outD
    rw [if_neg (by rw [dec_digs]; decide), (dec_dig _).2.1, if_neg (by rintro (h | ⟨_, h⟩); omega; cases h)]
    simp only [if_true]
    congr 1; omega
  · rw [out_pos _ (dec_first _)]
    unfold outD
    rw [if_neg (by rw [dec_digs]; decide), (dec_dig _).2.1, if_neg (by omega)]
    simp only [Bool.false_eq_true, if_false]
    congr 1; omega
theorem dec_len : ∀ (k u : Nat), u < 10 ^ (k + 1) → (Lib.decDigits u).length ≤ k + 1
  | 0, u, h => by rw [Lib.decDigits, dif_pos (by simpa using h)]; simp
  | k + 1, u, h => by
    by_cases hu : u < 10
    · rw [Lib.decDigits, dif_pos hu]; simp
    · rw [Lib.decDigits, dif_neg hu, List.length_append]
      have := dec_len k (u / 10) (by rw [Nat.div_lt_iff_lt_mul (by decide), ← Nat.pow_succ]; exact h)
      simp; omega
theorem itoa_len (m : Int) (h1 : -4611686018427387904 ≤ m) (h2 : m ≤ 4611686018427387903) : (Lib.itoa m).length ≤ 30 := by
  have key : ∀ u : Nat, u ≤ 4611686018427387904 → (Lib.decDigits u).length ≤ 20 := fun u hu => dec_len 19 u (Nat.lt_of_le_of_lt hu (by decide))
  unfold Lib.itoa
  split
  · have := key m.natAbs (by omega); simp; omega
  · have := key m.toNat (by omega); omega
theorem below_grow (w : World) (k : Nat) (os : Array Obj) : Below w.heap.size w (Go.Sort.grow (w.drewN k) os) := by
  refine ⟨rfl, rfl, rfl, ?_, fun i hi => ?_⟩
  · show w.heap.size ≤ (w.heap ++ os).size
    simp
  · show (w.heap ++ os)[i]? = w.heap[i]?
    rw [Array.getElem?_append_left hi]
theorem text_any (n : Int) (w : World) (ht : Lib.TabIs Tryd.prog w "internal/strconv.uint64pow10" .u64 Lib.pow10Tab) :
    Calls Tryd.prog 7 #[.int .i64 n] w fun e w' => e = .returned (.string (st (Lib.itoa (w63 n)))) ∧ Hid (Below w.heap.size w w') := by
  have h1 := w63_lo n
  have h2 := w63_hi n
  have HI := Lib.hid (Tryd.strconv_Itoa (w63 n) (by omega) (by omega) w ht)
  clear ht
  go_enter Tryd.func7, Tryd.ntmps7
  go_wp2_with fail
  refine (wrap_any _ _).mono ?_
  rintro e w' ⟨rfl, rfl⟩
  go_wp2_with fail
  refine HI.out.mono ?_
  rintro e w' ⟨rfl, k, os, rfl⟩
  have hb := Lib.hid (below_grow w k os)
  generalize Go.Sort.grow (w.drewN k) os = w2 at *
  go_wp2_with fail
  go_ret
  exact ⟨rfl, hb⟩
end Go.Proofs.YtkimfimcabjjiaaDoor
