/- Words of package lex: a name. -/
import Derived.Test.YtfpjeokncdlofaaLexI
import Derived.Test.YtfpjeokncdlofaaShelf
namespace Go.Proofs.Ytfpjeokncdlofaa
open Go.ChangeShapes Go.WideShapes Go.ChangeAt Go.RowKit
open Go.Proofs.Ytfpjeokncdlofaa.Fn (st st_size st_list st_extract)
set_option linter.unusedVariables false
set_option maxRecDepth 20000

/-- the other bytes of a name -/
def othersL : List UInt8 := [39, 43, 42, 47, 60, 62, 61, 33, 63, 95, 46, 45]
def othN (x : Nat) : Bool := !decide (Lib.indexByte othersL (UInt8.ofNat x) < 0)
def namN (x : Nat) : Bool := alnN x || othN x
/-- bytes of a name, but for the minus and digits -/
def namS : List UInt8 → Bool
  | [] => false
  | c :: t => (c :: t).all (fun d => namN d.toNat) && !capN c.toNat && !digN c.toNat
theorem isName_any (c : UInt8) (t : List UInt8) (hl : (c :: t).length ≤ 199999) (w : World) : Calls Try.prog 45 #[.string (st (c :: t))] w fun e w' => e = .returned (.bool (namS (c :: t))) ∧ w = w' := by
  obtain ⟨s, hs⟩ : ∃ s, st (c :: t) = s := ⟨_, rfl⟩
  have hsz : s.size ≤ 199999 := by rw [← hs, st_size]; exact hl
  have h1 : 0 < s.size := by rw [← hs, st_size]; simp
  have hix := idx0 c t
  rw [hs] at hix ⊢
  obtain ⟨x, hx⟩ : ∃ x, c.toNat = x := ⟨_, rfl⟩
  rw [hx] at hix
  have HSp : Hid (namS (c :: t) = (s.data.toList.all (fun d => namN d.toNat) && !capN x && !digN x)) := Lib.hid (by rw [← hs, st_list, ← hx]; rfl)
  obtain ⟨R, hR⟩ : ∃ R, namS (c :: t) = R := ⟨_, rfl⟩
  rw [hR] at HSp ⊢
  clear hx hs hR hl
  have HCp := Lib.hid (isCapital_any x w)
  have HDx := Lib.hid (isDigit_any x w)
  have HLe := Lib.hid (fun x => isLetter_any x w)
  have HDi := Lib.hid (fun x => isDigit_any x w)
  have HIx : Hid (∀ y : Nat, Calls Try.prog 59 #[.string { data := #[39, 43, 42, 47, 60, 62, 61, 33, 63, 95, 46, 45] }, .int .u8 (y : Int)] w fun e w' => e = .returned (.int .i64 (Lib.indexByte othersL (UInt8.ofNat y))) ∧ w' = w) := Lib.hid (fun y => (Try.strings_IndexByte { data := #[39, 43, 42, 47, 60, 62, 61, 33, 63, 95, 46, 45] } (y : Int) w))
  go_enter Try.func45, Try.ntmps45
  go_wp2_with fail
  go_loop [3, 4, 7] (fun u v i => ∃ k : Nat, k ≤ s.size ∧ i = .int .i64 k ∧ Hid (s.data.toList.all (fun d => namN d.toNat) = (s.data.toList.drop k).all (fun d => namN d.toNat))) (fun _ _ i => s.size - (intOf i).toNat)
  case atStart => exact ⟨0, by omega, rfl, Lib.hid rfl⟩
  case round =>
    obtain ⟨k, hk, rfl, hd⟩ := hrel
    by_cases hlt : k < s.size
    · have HS := Lib.hid (all_step (fun d => namN d.toNat) s k hlt)
      have hltI : (k : Int) < (s.size : Int) := by omega
      have hi : ∀ W, (Instr.index 9 (.string s) (.int .i64 (k : Int))).run Try.prog W = .ok (.int .u8 ((s[k].toNat : Nat) : Int)) W := fun W => by
        rw [run_index_string W 9 s .i64 k Try.underlying9, dif_pos (by omega)]
        rfl
      obtain ⟨y, hy⟩ : ∃ y, s[k].toNat = y := ⟨_, rfl⟩
      rw [hy] at hi
      have HS2 : Hid ((s.data.toList.drop k).all (fun d => namN d.toNat) = (namN y && (s.data.toList.drop (k + 1)).all (fun d => namN d.toNat))) := Lib.hid (by rw [HS.out, hy])
      have HL := Lib.hid (HLe.out y)
      have HD := Lib.hid (HDi.out y)
      have HI := Lib.hid (HIx.out y)
      have HOt : Hid (othN y = !decide (Lib.indexByte othersL (UInt8.ofNat y) < 0)) := Lib.hid rfl
      obtain ⟨ii, hii⟩ : ∃ ii, Lib.indexByte othersL (UInt8.ofNat y) = ii := ⟨_, rfl⟩
      rw [hii] at HI HOt
      clear hy HS HLe HDi HIx hii
      cases e1 : letN y with
      | true =>
        have h0 : Hid (s.data.toList.all (fun d => namN d.toNat) = (s.data.toList.drop (k + 1)).all (fun d => namN d.toNat)) := Lib.hid (by rw [hd.out, HS2.out, namN, alnN, e1]; simp)
        rw [e1] at HL
        clear e1 HS2 hd HD HI HOt
        go_wp2_with fail
        refine HL.out.mono ?_
        rintro e w2 ⟨rfl, rfl⟩
        go_wp2_with fail
        go_round
        case rel => exact ⟨k + 1, by omega, by go_num, h0⟩
        case measure => simp [intOf]; omega
      | false =>
        rw [e1] at HL
        cases e2 : digN y with
        | true =>
          have h0 : Hid (s.data.toList.all (fun d => namN d.toNat) = (s.data.toList.drop (k + 1)).all (fun d => namN d.toNat)) := Lib.hid (by rw [hd.out, HS2.out, namN, alnN, e1, e2]; simp)
          rw [e2] at HD
          clear e1 e2 HS2 hd HI HOt
          go_wp2_with fail
          refine HL.out.mono ?_
          rintro e w2 ⟨rfl, rfl⟩
          go_wp2_with fail
          refine HD.out.mono ?_
          rintro e w2 ⟨rfl, rfl⟩
          go_wp2_with fail
          go_round
          case rel => exact ⟨k + 1, by omega, by go_num, h0⟩
          case measure => simp [intOf]; omega
        | false =>
          rw [e2] at HD
          by_cases e3 : ii < 0
          · have h0 : Hid (R = false) := Lib.hid (by rw [HSp.out, hd.out, HS2.out, namN, alnN, e1, e2, HOt.out, decide_eq_true e3]; simp)
            clear e1 e2 HS2 hd HOt
            go_wp2_with fail
            refine HL.out.mono ?_
            rintro e w2 ⟨rfl, rfl⟩
            go_wp2_with fail
            refine HD.out.mono ?_
            rintro e w2 ⟨rfl, rfl⟩
            go_wp2_with fail
            refine HI.out.mono ?_
            rintro e w2 ⟨rfl, rfl⟩
            go_wp2_with fail
            go_ret
            exact ⟨by rw [h0.out]; rfl, rfl⟩
          · have h0 : Hid (s.data.toList.all (fun d => namN d.toNat) = (s.data.toList.drop (k + 1)).all (fun d => namN d.toNat)) := Lib.hid (by rw [hd.out, HS2.out, namN, alnN, e1, e2, HOt.out, decide_eq_false e3]; simp)
            clear e1 e2 HS2 hd HOt
            go_wp2_with fail
            refine HL.out.mono ?_
            rintro e w2 ⟨rfl, rfl⟩
            go_wp2_with fail
            refine HD.out.mono ?_
            rintro e w2 ⟨rfl, rfl⟩
            go_wp2_with fail
            refine HI.out.mono ?_
            rintro e w2 ⟨rfl, rfl⟩
            go_wp2_with fail
            go_round
            case rel => exact ⟨k + 1, by omega, by go_num, h0⟩
            case measure => simp [intOf]; omega
    · have h0 : Hid (R = (!capN x && !digN x)) := Lib.hid (by rw [HSp.out, hd.out, List.drop_eq_nil_of_le (by simp; omega)]; simp)
      have hltI : ¬ ((k : Int) < (s.size : Int)) := by omega
      clear HSp hd
      cases e1 : capN x with
      | true =>
        rw [e1] at HCp h0
        clear e1
        go_wp2_with fail
        refine HCp.out.mono ?_
        rintro e w2 ⟨rfl, rfl⟩
        go_wp2_with fail
        go_ret
        exact ⟨by rw [h0.out]; rfl, rfl⟩
      | false =>
        rw [e1] at HCp h0
        clear e1
        go_wp2_with fail
        refine HCp.out.mono ?_
        rintro e w2 ⟨rfl, rfl⟩
        go_wp2_with fail
        refine HDx.out.mono ?_
        rintro e w2 ⟨rfl, rfl⟩
        go_wp2_with fail
        go_ret
        exact ⟨by rw [h0.out]; rfl, rfl⟩

end Go.Proofs.Ytfpjeokncdlofaa
