/- Words of package lex: their letters; a name, a name with a capital. -/
import Derived.Test.YtfpjeokncdlofaaLexH
namespace Go.Proofs.Ytfpjeokncdlofaa
open Go.ChangeShapes Go.WideShapes Go.ChangeAt Go.RowKit
open Go.Proofs.Ytfpjeokncdlofaa.Fn (st st_size st_list st_extract)
set_option linter.unusedVariables false
set_option maxRecDepth 20000

def capN (x : Nat) : Bool := decide (65 ≤ x) && decide (x ≤ 90)
def letN (x : Nat) : Bool := capN x || (decide (97 ≤ x) && decide (x ≤ 122))
def alnN (x : Nat) : Bool := letN x || digN x
theorem isCapital_any (x : Nat) (w : World) : Calls Try.prog 58 #[.int .u8 (x : Int)] w fun e w' => e = .returned (.bool (capN x)) ∧ w = w' := by
  unfold capN
  by_cases h1 : 65 ≤ x
  · by_cases h2 : x ≤ 90
    · have k1 : (65 : Int) ≤ (x : Int) := by omega
      have k2 : (x : Int) ≤ 90 := by omega
      rw [decide_eq_true h1, decide_eq_true h2]
      go_enter Try.func58, Try.ntmps58
      go_wp2_with fail
      go_ret
      exact ⟨rfl, rfl⟩
    · have k1 : (65 : Int) ≤ (x : Int) := by omega
      have k2 : ¬ ((x : Int) ≤ 90) := by omega
      rw [decide_eq_true h1, decide_eq_false h2]
      go_enter Try.func58, Try.ntmps58
      go_wp2_with fail
      go_ret
      exact ⟨rfl, rfl⟩
  · have k1 : ¬ ((65 : Int) ≤ (x : Int)) := by omega
    rw [decide_eq_false h1]
    go_enter Try.func58, Try.ntmps58
    go_wp2_with fail
    go_ret
    exact ⟨rfl, rfl⟩
theorem isLetter_any (x : Nat) (w : World) : Calls Try.prog 56 #[.int .u8 (x : Int)] w fun e w' => e = .returned (.bool (letN x)) ∧ w = w' := by
  have HD := Lib.hid (isCapital_any x w)
  unfold letN
  cases hd : capN x with
  | true =>
    rw [hd] at HD
    clear hd
    go_enter Try.func56, Try.ntmps56
    go_wp2_with fail
    refine HD.out.mono ?_
    rintro e w2 ⟨rfl, rfl⟩
    go_wp2_with fail
    go_ret
    exact ⟨rfl, rfl⟩
  | false =>
    rw [hd] at HD
    clear hd
    by_cases h1 : 97 ≤ x
    · by_cases h2 : x ≤ 122
      · have k1 : (97 : Int) ≤ (x : Int) := by omega
        have k2 : (x : Int) ≤ 122 := by omega
        rw [decide_eq_true h1, decide_eq_true h2]
        go_enter Try.func56, Try.ntmps56
        go_wp2_with fail
        refine HD.out.mono ?_
        rintro e w2 ⟨rfl, rfl⟩
        go_wp2_with fail
        go_ret
        exact ⟨rfl, rfl⟩
      · have k1 : (97 : Int) ≤ (x : Int) := by omega
        have k2 : decide ((x : Int) ≤ 122) = false := decide_eq_false (by omega)
        rw [decide_eq_true h1, decide_eq_false h2]
        go_enter Try.func56, Try.ntmps56
        go_wp2_with fail
        refine HD.out.mono ?_
        rintro e w2 ⟨rfl, rfl⟩
        go_wp2_with fail
        go_ret
        exact ⟨rfl, rfl⟩
    · have k1 : ¬ ((97 : Int) ≤ (x : Int)) := by omega
      rw [decide_eq_false h1]
      go_enter Try.func56, Try.ntmps56
      go_wp2_with fail
      refine HD.out.mono ?_
      rintro e w2 ⟨rfl, rfl⟩
      go_wp2_with fail
      go_ret
      exact ⟨rfl, rfl⟩
/-- bytes of a word with a capital -/
def conS : List UInt8 → Bool
  | [] => false
  | c :: t => (c :: t).all (fun d => alnN d.toNat) && capN c.toNat
theorem all_step (f : UInt8 → Bool) (s : ByteArray) (k : Nat) (h : k < s.size) : (s.data.toList.drop k).all f = (f s[k] && (s.data.toList.drop (k + 1)).all f) := by
  rw [List.drop_eq_getElem_cons (by simpa using h), List.all_cons, Fd.get_list s k h]
theorem isCon_any (c : UInt8) (t : List UInt8) (hl : (c :: t).length ≤ 199999) (w : World) : Calls Try.prog 44 #[.string (st (c :: t))] w fun e w' => e = .returned (.bool (conS (c :: t))) ∧ w = w' := by
  obtain ⟨s, hs⟩ : ∃ s, st (c :: t) = s := ⟨_, rfl⟩
  have hsz : s.size ≤ 199999 := by rw [← hs, st_size]; exact hl
  have h1 : 0 < s.size := by rw [← hs, st_size]; simp
  have hix := idx0 c t
  rw [hs] at hix ⊢
  obtain ⟨x, hx⟩ : ∃ x, c.toNat = x := ⟨_, rfl⟩
  rw [hx] at hix
  have HSp : Hid (conS (c :: t) = (s.data.toList.all (fun d => alnN d.toNat) && capN x)) := Lib.hid (by rw [← hs, st_list, ← hx]; rfl)
  obtain ⟨R, hR⟩ : ∃ R, conS (c :: t) = R := ⟨_, rfl⟩
  rw [hR] at HSp ⊢
  clear hx hs hR hl
  have HCp := Lib.hid (isCapital_any x w)
  have HLe := Lib.hid (fun x => isLetter_any x w)
  have HDi := Lib.hid (fun x => isDigit_any x w)
  go_enter Try.func44, Try.ntmps44
  go_wp2_with fail
  go_loop [3, 6] (fun u i => ∃ k : Nat, k ≤ s.size ∧ i = .int .i64 k ∧ Hid (s.data.toList.all (fun d => alnN d.toNat) = (s.data.toList.drop k).all (fun d => alnN d.toNat))) (fun _ i => s.size - (intOf i).toNat)
  case atStart => exact ⟨0, by omega, rfl, Lib.hid rfl⟩
  case round =>
    obtain ⟨k, hk, rfl, hd⟩ := hrel
    by_cases hlt : k < s.size
    · have HS := Lib.hid (all_step (fun d => alnN d.toNat) s k hlt)
      have hltI : (k : Int) < (s.size : Int) := by omega
      have hi : ∀ W, (Instr.index 9 (.string s) (.int .i64 (k : Int))).run Try.prog W = .ok (.int .u8 ((s[k].toNat : Nat) : Int)) W := fun W => by
        rw [run_index_string W 9 s .i64 k Try.underlying9, dif_pos (by omega)]
        rfl
      obtain ⟨y, hy⟩ : ∃ y, s[k].toNat = y := ⟨_, rfl⟩
      rw [hy] at hi
      have HS2 : Hid ((s.data.toList.drop k).all (fun d => alnN d.toNat) = (alnN y && (s.data.toList.drop (k + 1)).all (fun d => alnN d.toNat))) := Lib.hid (by rw [HS.out, hy])
      have HL := Lib.hid (HLe.out y)
      have HD := Lib.hid (HDi.out y)
      clear hy HS HLe HDi
      cases e1 : letN y with
      | true =>
        have h0 : Hid (s.data.toList.all (fun d => alnN d.toNat) = (s.data.toList.drop (k + 1)).all (fun d => alnN d.toNat)) := Lib.hid (by rw [hd.out, HS2.out, alnN, e1]; simp)
        rw [e1] at HL
        clear e1 HS2 hd HD
        go_wp2_with fail
        refine HL.out.mono ?_
        rintro e w2 ⟨rfl, rfl⟩
        go_wp2_with fail
        go_round
        case rel => exact ⟨k + 1, by omega, by go_num, h0⟩
        case measure => simp [intOf]; omega
      | false =>
        rw [e1] at HL
        cases e2 : digN y with
        | true =>
          have h0 : Hid (s.data.toList.all (fun d => alnN d.toNat) = (s.data.toList.drop (k + 1)).all (fun d => alnN d.toNat)) := Lib.hid (by rw [hd.out, HS2.out, alnN, e1, e2]; simp)
          rw [e2] at HD
          clear e1 e2 HS2 hd
          go_wp2_with fail
          refine HL.out.mono ?_
          rintro e w2 ⟨rfl, rfl⟩
          go_wp2_with fail
          refine HD.out.mono ?_
          rintro e w2 ⟨rfl, rfl⟩
          go_wp2_with fail
          go_round
          case rel => exact ⟨k + 1, by omega, by go_num, h0⟩
          case measure => simp [intOf]; omega
        | false =>
          have h0 : Hid (R = false) := Lib.hid (by rw [HSp.out, hd.out, HS2.out, alnN, e1, e2]; simp)
          rw [e2] at HD
          clear e1 e2 HS2 hd
          go_wp2_with fail
          refine HL.out.mono ?_
          rintro e w2 ⟨rfl, rfl⟩
          go_wp2_with fail
          refine HD.out.mono ?_
          rintro e w2 ⟨rfl, rfl⟩
          go_wp2_with fail
          go_ret
          exact ⟨by rw [h0.out]; rfl, rfl⟩
    · have h0 : Hid (R = capN x) := Lib.hid (by rw [HSp.out, hd.out, List.drop_eq_nil_of_le (by simp; omega)]; simp)
      have hltI : ¬ ((k : Int) < (s.size : Int)) := by omega
      rw [← h0.out] at HCp
      go_wp2_with fail
      refine HCp.out.mono ?_
      rintro e w2 ⟨rfl, rfl⟩
      go_wp2_with fail
      go_ret
      exact ⟨rfl, rfl⟩

end Go.Proofs.Ytfpjeokncdlofaa
