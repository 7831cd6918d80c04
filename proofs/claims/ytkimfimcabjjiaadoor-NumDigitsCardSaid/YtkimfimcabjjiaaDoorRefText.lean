/- Contract of the document's Text. -/
import Derived.Test.YtkimfimcabjjiaaDoorText
namespace Go.Proofs.YtkimfimcabjjiaaDoor
open Go.ChangeShapes Go.WideShapes Go.ChangeAt Go.RowKit
set_option linter.unusedVariables false

theorem st_append (a b : List UInt8) : st a ++ st b = st (a ++ b) := by
  apply ByteArray.ext
  apply Array.toList_inj.1
  simp [st]
theorem st_add (a b : List UInt8) (h : a.length + b.length ≤ 20000) : ∀ w, (Op.stringOp .add (st a) (st b)).run Tryd.prog w = .ok (.string (st (a ++ b))) w := fun w => by
  rw [run_string_add_sum w _ _ (by rw [st_size, st_size]; omega), st_append]
theorem st_one (b : Nat) (hb : b < 256) : strOfNums [(b : Int)] = st [UInt8.ofNat b] := by
  apply ByteArray.ext
  apply Array.toList_inj.1
  simp [st, strOfNums]
theorem cell_one (w : World) (v : Value) (t : TypeId) : (w.alloc (.cells #[v] t)).cell? ⟨w.heap.size, 0, none⟩ = some v := by simp [World.cell?, show (w.alloc (.cells #[v] t)).heap = w.heap.push (.cells #[v] t) from rfl]
theorem conv_one (w : World) (b : Nat) (hb : b < 256) : (convert 35 9 (.slice (some ⟨w.heap.size, 0, none⟩) 1 1)).run Tryd.prog (w.alloc (.cells #[.int .u8 (b : Int)] 5)) = .ok (.string (st [UInt8.ofNat b])) (w.alloc (.cells #[.int .u8 (b : Int)] 5)) := by
  rw [← st_one b hb]
  exact run_convert_bytes_arg (P := Tryd.prog) _ 35 5 Tryd.underlying35 Tryd.underlying5 w.heap.size 0 1 1 [(b : Int)] rfl (fun i hi => by
    obtain rfl : i = 0 := by omega
    exact cell_one w (.int .u8 (b : Int)) 5) 9 Tryd.underlying9
/-- a digit -/
def dgc (d : Nat) : UInt8 := UInt8.ofNat (48 + d)
/-- what stands at the loop's head -/
def Made (K x : Nat) (bs : List UInt8) : Prop := (bs = [] ∧ x = K) ∨ (bs ≠ [] ∧ 0 < x ∧ Lib.decDigits x ++ bs = Lib.decDigits K) ∨ (bs ≠ [] ∧ x = 0 ∧ bs = Lib.decDigits K)
theorem made_next {K x : Nat} {bs : List UInt8} (h : Made K x bs) (hc : 0 < x ∨ bs = []) : Made K (x / 10) ([dgc (x % 10)] ++ bs) := by
  have key : Lib.decDigits x ++ bs = Lib.decDigits K := by
    rcases h with ⟨rfl, rfl⟩ | ⟨_, _, h⟩ | ⟨h1, h2, _⟩
    · rw [List.append_nil]
    · exact h
    · rcases hc with hc | hc
      · omega
      · exact absurd hc h1
  by_cases hx : x < 10
  · refine .inr (.inr ⟨by simp, by omega, ?_⟩)
    rw [Lib.decDigits, dif_pos hx] at key
    rw [← key, show x % 10 = x by omega]; rfl
  · refine .inr (.inl ⟨by simp, by omega, ?_⟩)
    rw [Lib.decDigits, dif_neg hx] at key
    rw [← key, List.append_assoc]; rfl
theorem made_end {K x : Nat} {bs : List UInt8} (h : Made K x bs) (h0 : x = 0) (hb : bs ≠ []) : bs = Lib.decDigits K := by
  rcases h with ⟨h1, _⟩ | ⟨_, h1, _⟩ | ⟨_, _, h⟩
  · exact absurd h1 hb
  · omega
  · exact h
theorem made_len {K x : Nat} {bs : List UInt8} (h : Made K x bs) (hK : K ≤ 4611686018427387904) : bs.length ≤ 20 := by
  have key : (Lib.decDigits K).length ≤ 20 := dec_len 19 K (Nat.lt_of_le_of_lt hK (by decide))
  rcases h with ⟨rfl, _⟩ | ⟨_, _, h⟩ | ⟨_, _, h⟩
  · simp
  · rw [← h, List.length_append] at key; omega
  · rw [h]; exact key
def strLen : Value → Nat
  | .string b => b.size
  | _ => 0
set_option maxRecDepth 20000 in
set_option maxHeartbeats 4000000 in
theorem refText_any (n : Int) (w : World) :
    Calls Tryd.prog 8 #[.int .i64 n] w fun e w' => e = .returned (.string (st (Lib.itoa (w63 n)))) ∧ Hid (Below w.heap.size w w') := by
  have h1 := w63_lo n
  have h2 := w63_hi n
  have HW := Lib.hid (refWrap_any n w)
  generalize w63 n = m at *
  obtain ⟨K, hK⟩ : ∃ K, m.natAbs = K := ⟨_, rfl⟩
  have hKle : K ≤ 4611686018427387904 := by omega
  have hK64 : K < 18446744073709551616 := by omega
  by_cases hn : m < 0
  case' pos =>
    have HI : Hid (True → st (Lib.itoa m) = st ([45] ++ Lib.decDigits K)) := Lib.hid fun _ => by unfold Lib.itoa; rw [if_pos hn, hK]; rfl
    have e0 : IntKind.u64.wrap (-IntKind.u64.wrap m) = (K : Int) := by rw [IntKind.wrap_u64, IntKind.wrap_u64]; omega
  case' neg =>
    have HI : Hid (True → st (Lib.itoa m) = st (Lib.decDigits K)) := Lib.hid fun _ => by unfold Lib.itoa; rw [if_neg hn, show m.toNat = K by omega]
    have e0 : m = (K : Int) := by omega
  all_goals
    clear hK
    go_enter Tryd.func8, Tryd.ntmps8
    go_wp2_with fail
    refine HW.out.mono ?_
    rintro e w' ⟨rfl, rfl⟩
    go_wp2_with fail
    go_loopw [4, 5] (fun u b wr => ∃ (x : Nat) (bs : List UInt8), u = .int .u64 (x : Int) ∧ b = .string (st bs) ∧ x ≤ K ∧ Hid (Made K x bs) ∧ Hid (Below w.heap.size w wr)) (fun u b _ => 2 * (intOf u).toNat + (if strLen b = 0 then 1 else 0))
    case atStart => exact ⟨K, [], by first | rfl | (rw [e0]) | simp [e0], rfl, by omega, Lib.hid (.inl ⟨rfl, rfl⟩), Lib.hid (Below.refl _ _)⟩
    case round =>
      obtain ⟨x, bs, rfl, rfl, hxK, hmade, hbel⟩ := hrel
      have hsz := hbel.out.size
      have hlen := made_len hmade.out hKle
      have hcv : (convert 35 9 (.slice (some ⟨wr.heap.size, 0, none⟩) 1 1)).run Tryd.prog (wr.alloc (.cells #[.int .u8 (48 + (x : Int) % 10)] 5)) = .ok (.string (st [dgc (x % 10)])) (wr.alloc (.cells #[.int .u8 (48 + (x : Int) % 10)] 5)) := by
        have h := conv_one wr (48 + x % 10) (by omega)
        have e : ((48 + x % 10 : Nat) : Int) = 48 + (x : Int) % 10 := by omega
        rw [e] at h
        exact h
      have hb2 := Lib.hid (hbel.out.alloc hsz (.cells #[.int .u8 (48 + (x : Int) % 10)] 5))
      by_cases hx : 0 < x
      · have HN := Lib.hid (made_next hmade.out (.inl hx))
        have hadd := st_add [dgc (x % 10)] bs (by simp; omega)
        have HM : Hid (strLen (.string (st ([dgc (x % 10)] ++ bs))) ≠ 0) := Lib.hid (by show (st ([dgc (x % 10)] ++ bs)).size ≠ 0; rw [st_size]; simp)
        clear hmade
        go_wp2_with fail
        go_roundw
        case rel => exact ⟨x / 10, [dgc (x % 10)] ++ bs, by go_num, rfl, by omega, HN, hb2⟩
        case measure =>
          have := HM.out
          simp only [intOf]
          (repeat' split) <;> omega
      · obtain rfl : x = 0 := by omega
        by_cases hb : bs = []
        · subst hb
          have HN := Lib.hid (made_next hmade.out (.inr rfl))
          have hadd : ∀ w, (Op.stringOp .add (st [dgc 0]) { data := #[] }).run Tryd.prog w = .ok (.string (st ([dgc 0] ++ []))) w := st_add [dgc 0] [] (by simp)
          have HM : Hid (strLen (.string (st ([dgc 0] ++ []))) ≠ 0) := Lib.hid (by show (st ([dgc 0] ++ [])).size ≠ 0; rw [st_size]; simp)
          have hcv0 : (convert 35 9 (.slice (some ⟨wr.heap.size, 0, none⟩) 1 1)).run Tryd.prog (wr.alloc (.cells #[.int .u8 48] 5)) = .ok (.string (st [dgc 0])) (wr.alloc (.cells #[.int .u8 48] 5)) := conv_one wr 48 (by decide)
          have hb0 := Lib.hid (hbel.out.alloc hsz (.cells #[.int .u8 48] 5))
          have e1 : st [] = { data := #[] } := rfl
          rw [e1]
          clear hmade e1 hcv hb2
          go_wp2_with fail
          go_roundw
          case rel => exact ⟨0, [dgc 0] ++ [], by first | rfl | go_num, rfl, by omega, HN, hb0⟩
          case measure =>
            have := HM.out
            have h0 : strLen (.string { data := #[] }) = 0 := rfl
            have h3 : strLen (.string (st [])) = 0 := rfl
            have h4 : strLen (.string (st [dgc 0])) ≠ 0 := this
            simp only [intOf]
            (repeat' split) <;> omega
        · have HE := Lib.hid (made_end hmade.out rfl hb)
          have hne : (st bs).toList.isEmpty = false := by
            rw [ByteArray.toList_eq, st_list]
            cases bs with
            | nil => exact absurd rfl hb
            | cons c t => rfl
          have hadd : ∀ w, (Op.stringOp .add { data := #[45] } (st bs)).run Tryd.prog w = .ok (.string (st ([45] ++ bs))) w := st_add [45] bs (by simp; omega)
          clear hmade hcv
          go_wp2_with fail
          go_ret
          exact ⟨by rw [HI.out trivial, ← HE.out]; rfl, hbel⟩
end Go.Proofs.YtkimfimcabjjiaaDoor
