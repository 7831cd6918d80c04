/- The statements of package lex: an integer's digits. -/
import Derived.Test.YtfpjeokncdlofaaLexV
import Derived.Lib.ItoaNum
namespace Go.Proofs.Ytfpjeokncdlofaa
open Go.ChangeShapes Go.WideShapes Go.ChangeAt Go.RowKit Go.Joins
open Go.Proofs.Ytfpjeokncdlofaa.Fn (st st_size st_list st_extract)
open Go.Proofs.Ytfpjeokncdlofaa.Fd (dgB val digs outD out out_neg out_pos dg_of val_snoc ofNat_dig)
set_option linter.unusedVariables false
set_option maxRecDepth 20000

theorem dec_dig (u : Nat) : (∀ c ∈ Lib.decDigits u, dgB c = true) ∧ val (Lib.decDigits u) = u ∧ 0 < (Lib.decDigits u).length := by
  induction u using Nat.strongRecOn with
  | ind u ih =>
    by_cases h : u < 10
    · rw [Lib.decDigits, dif_pos h]
      refine ⟨fun c hc => ?_, ?_, by simp⟩
      · obtain rfl := List.mem_singleton.1 hc
        rw [dg_of, ofNat_dig u h]; omega
      · show 0 * 10 + ((UInt8.ofNat (48 + u)).toNat - 48) = u
        rw [ofNat_dig u h]; omega
    · rw [Lib.decDigits, dif_neg h]
      obtain ⟨h1, h2, h3⟩ := ih (u / 10) (by omega)
      refine ⟨fun c hc => ?_, ?_, by simp⟩
      · rcases List.mem_append.1 hc with hc | hc
        · exact h1 c hc
        · obtain rfl := List.mem_singleton.1 hc
          rw [dg_of, ofNat_dig _ (Nat.mod_lt _ (by decide))]
          have := Nat.mod_lt u (show 0 < 10 by decide)
          omega
      · rw [val_snoc, h2, ofNat_dig _ (Nat.mod_lt _ (by decide))]; omega
theorem dec_digs (u : Nat) : digs (Lib.decDigits u) = true := by
  obtain ⟨h1, _, h3⟩ := dec_dig u
  unfold digs
  rw [List.all_eq_true.2 h1, Bool.and_true]
  cases hh : Lib.decDigits u with
  | nil => rw [hh] at h3; simp at h3
  | cons c t => rfl
theorem dec_first (u : Nat) : ∀ t, Lib.decDigits u ≠ 45 :: t := fun t e => by
  have h1 := (dec_dig u).1 45 (by rw [e]; simp)
  exact absurd h1 (by decide)
/-- digits come back -/
theorem out_itoa (m : Int) (h1 : -4611686018427387904 ≤ m) (h2 : m ≤ 4611686018427387903) : out (Lib.itoa m) = (m, 0) := by
  unfold Lib.itoa
  split
  · rw [out_neg]
    unfold outD
    rw [if_neg (by rw [dec_digs]; decide), (dec_dig _).2.1, if_neg (by rintro (h | ⟨_, h⟩); omega; cases h)]
    simp only [if_true]
    congr 1; omega
  · rw [out_pos _ (dec_first _)]
    unfold outD
    rw [if_neg (by rw [dec_digs]; decide), (dec_dig _).2.1, if_neg (by omega)]
    simp only [Bool.false_eq_true, if_false]
    congr 1; omega
theorem dec_len : ∀ (k u : Nat), u < 10 ^ (k + 1) → (Lib.decDigits u).length ≤ k + 1
  | 0, u, h => by rw [Lib.decDigits, dif_pos (by simpa using h)]; simp
  | k + 1, u, h => by
    by_cases hu : u < 10
    · rw [Lib.decDigits, dif_pos hu]; simp
    · rw [Lib.decDigits, dif_neg hu, List.length_append]
      have := dec_len k (u / 10) (by rw [Nat.div_lt_iff_lt_mul (by decide), ← Nat.pow_succ]; exact h)
      simp; omega
theorem itoa_len (m : Int) (h1 : -4611686018427387904 ≤ m) (h2 : m ≤ 4611686018427387903) : (Lib.itoa m).length ≤ 30 := by
  have key : ∀ u : Nat, u ≤ 4611686018427387904 → (Lib.decDigits u).length ≤ 20 := fun u hu => dec_len 19 u (Nat.lt_of_le_of_lt hu (by decide))
  unfold Lib.itoa
  split
  · have := key m.natAbs (by omega); simp; omega
  · have := key m.toNat (by omega); omega
theorem st_append (a b : List UInt8) : st a ++ st b = st (a ++ b) := by
  apply ByteArray.ext
  apply Array.toList_inj.1
  simp [st]
theorem st_add (a b : List UInt8) (h : a.length + b.length ≤ 20000) : ∀ w, (Op.stringOp .add (st a) (st b)).run Try.prog w = .ok (.string (st (a ++ b))) w := fun w => by
  rw [run_string_add_sum w _ _ (by rw [st_size, st_size]; omega), st_append]
theorem st_one (b : Nat) (hb : b < 256) : strOfNums [(b : Int)] = st [UInt8.ofNat b] := by
  apply ByteArray.ext
  apply Array.toList_inj.1
  simp [st, strOfNums]
theorem cell_one (w : World) (v : Value) (t : TypeId) : (w.alloc (.cells #[v] t)).cell? ⟨w.heap.size, 0, none⟩ = some v := by simp [World.cell?, show (w.alloc (.cells #[v] t)).heap = w.heap.push (.cells #[v] t) from rfl]
theorem conv_one (w : World) (b : Nat) (hb : b < 256) : (convert 46 9 (.slice (some ⟨w.heap.size, 0, none⟩) 1 1)).run Try.prog (w.alloc (.cells #[.int .u8 (b : Int)] 5)) = .ok (.string (st [UInt8.ofNat b])) (w.alloc (.cells #[.int .u8 (b : Int)] 5)) := by
  rw [← st_one b hb]
  exact run_convert_bytes_arg (P := Try.prog) _ 46 5 Try.underlying46 Try.underlying5 w.heap.size 0 1 1 [(b : Int)] rfl (fun i hi => by
    obtain rfl : i = 0 := by omega
    exact cell_one w (.int .u8 (b : Int)) 5) 9 Try.underlying9
/-- a digit -/
def dgc (d : Nat) : UInt8 := UInt8.ofNat (48 + d)
/-- what stands at the loop's head -/
def Made (K x : Nat) (bs : List UInt8) : Prop := (bs = [] ∧ x = K) ∨ (bs ≠ [] ∧ 0 < x ∧ Lib.decDigits x ++ bs = Lib.decDigits K) ∨ (bs ≠ [] ∧ x = 0 ∧ bs = Lib.decDigits K)
theorem made_next {K x : Nat} {bs : List UInt8} (h : Made K x bs) (hc : 0 < x ∨ bs = []) : Made K (x / 10) ([dgc (x % 10)] ++ bs) := by
  have key : Lib.decDigits x ++ bs = Lib.decDigits K := by
    rcases h with ⟨rfl, rfl⟩ | ⟨_, _, h⟩ | ⟨h1, h2, _⟩
    · rw [List.append_nil]
    · exact h
    · rcases hc with hc | hc
      · omega
      · exact absurd hc h1
  by_cases hx : x < 10
  · refine .inr (.inr ⟨by simp, by omega, ?_⟩)
    rw [Lib.decDigits, dif_pos hx] at key
    rw [← key, show x % 10 = x by omega]; rfl
  · refine .inr (.inl ⟨by simp, by omega, ?_⟩)
    rw [Lib.decDigits, dif_neg hx] at key
    rw [← key, List.append_assoc]; rfl
theorem made_end {K x : Nat} {bs : List UInt8} (h : Made K x bs) (h0 : x = 0) (hb : bs ≠ []) : bs = Lib.decDigits K := by
  rcases h with ⟨h1, _⟩ | ⟨_, h1, _⟩ | ⟨_, _, h⟩
  · exact absurd h1 hb
  · omega
  · exact h
theorem made_len {K x : Nat} {bs : List UInt8} (h : Made K x bs) (hK : K ≤ 4611686018427387904) : bs.length ≤ 20 := by
  have key : (Lib.decDigits K).length ≤ 20 := dec_len 19 K (Nat.lt_of_le_of_lt hK (by decide))
  rcases h with ⟨rfl, _⟩ | ⟨_, _, h⟩ | ⟨_, _, h⟩
  · simp
  · rw [← h, List.length_append] at key; omega
  · rw [h]; exact key
def strLen : Value → Nat
  | .string b => b.size
  | _ => 0
set_option maxHeartbeats 4000000 in
theorem number_pos (K : Nat) (hK : K < 4611686018427387904) (w : World) :
    Calls Try.prog 16 #[.int .i64 (K : Int)] w fun e w' => e = .returned (.string (st (Lib.decDigits K))) ∧ Hid (Below w.heap.size w w') := by
  have hKle : K ≤ 4611686018427387904 := by omega
  go_enter Try.func16, Try.ntmps16
  go_wp2_with fail
  go_loopw [0, 3] (fun u b wr => ∃ (x : Nat) (bs : List UInt8), u = .int .i64 (x : Int) ∧ b = .string (st bs) ∧ x ≤ K ∧ Hid (Made K x bs) ∧ Hid (Below w.heap.size w wr)) (fun u b _ => 2 * (intOf u).toNat + (if strLen b = 0 then 1 else 0))
  case atStart => exact ⟨K, [], rfl, rfl, by omega, Lib.hid (.inl ⟨rfl, rfl⟩), Lib.hid (Below.refl _ _)⟩
  case round =>
    obtain ⟨x, bs, rfl, rfl, hxK, hmade, hbel⟩ := hrel
    have hsz := hbel.out.size
    have hlen := made_len hmade.out hKle
    have hcv : (convert 46 9 (.slice (some ⟨wr.heap.size, 0, none⟩) 1 1)).run Try.prog (wr.alloc (.cells #[.int .u8 (48 + (x : Int) % 10)] 5)) = .ok (.string (st [dgc (x % 10)])) (wr.alloc (.cells #[.int .u8 (48 + (x : Int) % 10)] 5)) := by
      have h := conv_one wr (48 + x % 10) (by omega)
      have e : ((48 + x % 10 : Nat) : Int) = 48 + (x : Int) % 10 := by omega
      rw [e] at h
      exact h
    have hb2 := Lib.hid (hbel.out.alloc hsz (.cells #[.int .u8 (48 + (x : Int) % 10)] 5))
    by_cases hx : 0 < x
    · have HN := Lib.hid (made_next hmade.out (.inl hx))
      have hadd := st_add [dgc (x % 10)] bs (by simp; omega)
      have HM : Hid (strLen (.string (st ([dgc (x % 10)] ++ bs))) ≠ 0) := Lib.hid (by show (st ([dgc (x % 10)] ++ bs)).size ≠ 0; rw [st_size]; simp)
      clear hmade
      go_wp2_with fail
      go_roundw
      case rel => exact ⟨x / 10, [dgc (x % 10)] ++ bs, by go_num, rfl, by omega, HN, hb2⟩
      case measure =>
        have := HM.out
        simp only [intOf]
        (repeat' split) <;> omega
    · obtain rfl : x = 0 := by omega
      by_cases hb : bs = []
      · subst hb
        have HN := Lib.hid (made_next hmade.out (.inr rfl))
        have hadd : ∀ w, (Op.stringOp .add (st [dgc 0]) { data := #[] }).run Try.prog w = .ok (.string (st ([dgc 0] ++ []))) w := st_add [dgc 0] [] (by simp)
        have HM : Hid (strLen (.string (st ([dgc 0] ++ []))) ≠ 0) := Lib.hid (by show (st ([dgc 0] ++ [])).size ≠ 0; rw [st_size]; simp)
        have hcv0 : (convert 46 9 (.slice (some ⟨wr.heap.size, 0, none⟩) 1 1)).run Try.prog (wr.alloc (.cells #[.int .u8 48] 5)) = .ok (.string (st [dgc 0])) (wr.alloc (.cells #[.int .u8 48] 5)) := conv_one wr 48 (by decide)
        have hb0 := Lib.hid (hbel.out.alloc hsz (.cells #[.int .u8 48] 5))
        have e1 : st [] = { data := #[] } := rfl
        rw [e1]
        clear hmade e1 hcv hb2
        go_wp2_with fail
        go_roundw
        case rel => exact ⟨0, [dgc 0] ++ [], by first | rfl | go_num, rfl, by omega, HN, hb0⟩
        case measure =>
          have := HM.out
          have h0 : strLen (.string { data := #[] }) = 0 := rfl
          have h3 : strLen (.string (st [])) = 0 := rfl
          have h4 : strLen (.string (st [dgc 0])) ≠ 0 := this
          simp only [intOf]
          (repeat' split) <;> omega
      · have HE := Lib.hid (made_end hmade.out rfl hb)
        have hne : (st bs).toList.isEmpty = false := by
          rw [ByteArray.toList_eq, st_list]
          cases bs with
          | nil => exact absurd rfl hb
          | cons c t => rfl
        clear hmade hcv
        go_wp2_with fail
        go_ret
        exact ⟨by rw [← HE.out]; rfl, hbel⟩
theorem itoa_least : st (Lib.itoa (-4611686018427387904)) = ⟨#[45, 52, 54, 49, 49, 54, 56, 54, 48, 49, 56, 52, 50, 55, 51, 56, 55, 57, 48, 52]⟩ := by
  unfold Lib.itoa
  rw [if_pos (by decide)]
  simp [Lib.decDigits]
  rfl
set_option maxHeartbeats 4000000 in
theorem number_any (i : Int) (h1 : -4611686018427387904 ≤ i) (h2 : i ≤ 4611686018427387903) (w : World) :
    Calls Try.prog 16 #[.int .i64 i] w fun e w' => e = .returned (.string (st (Lib.itoa i))) ∧ Hid (Below w.heap.size w w') := by
  by_cases h0 : 0 ≤ i
  · obtain ⟨K, rfl⟩ : ∃ K : Nat, i = (K : Int) := ⟨i.toNat, by omega⟩
    rw [show Lib.itoa (K : Int) = Lib.decDigits K by unfold Lib.itoa; rw [if_neg (by omega)]; rfl]
    exact number_pos K (by omega) w
  · by_cases hm : i = -4611686018427387904
    · subst hm
      rw [itoa_least]
      go_enter Try.func16, Try.ntmps16
      go_wp2_with fail
      go_ret
      exact ⟨rfl, Lib.hid (Below.refl _ _)⟩
    · obtain ⟨K, hK⟩ : ∃ K : Nat, -i = (K : Int) := ⟨(-i).toNat, by omega⟩
      have e1 : Lib.itoa i = [45] ++ Lib.decDigits K := by unfold Lib.itoa; rw [if_pos (by omega), show i.natAbs = K by omega]; rfl
      rw [e1]
      have HN := Lib.hid (number_pos K (by omega) w)
      have hlen : (Lib.decDigits K).length ≤ 20 := dec_len 19 K (Nat.lt_of_lt_of_le (show K < 4611686018427387904 by omega) (by decide))
      have hadd : ∀ w, (Op.stringOp .add { data := #[45] } (st (Lib.decDigits K))).run Try.prog w = .ok (.string (st ([45] ++ Lib.decDigits K))) w := st_add [45] (Lib.decDigits K) (by simp; omega)
      have hn : (i == -4611686018427387904) = false := by simpa using hm
      have hw1 : IntKind.i64.wrap (-i) = (K : Int) := by rw [IntKind.wrap_i64]; omega
      have hlt : i < 0 := by omega
      clear e1 hlen hm h0 h1 h2 hK
      go_enter Try.func16, Try.ntmps16
      go_wp2_with fail
      refine HN.out.mono ?_
      rintro e w2 ⟨rfl, hb⟩
      go_wp2_with fail
      go_ret
      exact ⟨rfl, hb⟩
end Go.Proofs.Ytfpjeokncdlofaa
