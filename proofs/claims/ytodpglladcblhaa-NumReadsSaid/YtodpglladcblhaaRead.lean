/- Contracts of isDigits, strings.CutPrefix (at '-') and strings.Cut (at '.'). -/
import Derived.Test.YtodpglladcblhaaBase
import Derived.LoopTactic
import Derived.Outline
import Derived.Laws.Externs
import Derived.Laws.Runes
namespace Go.Proofs.Ytodpglladcblhaa
open Go.ChangeShapes Go.WideShapes Go.ChangeAt Go.RowKit

/-- digits 0 to 9 alone -/
def dgB (c : UInt8) : Bool := 48 ≤ c.toNat && c.toNat ≤ 57
def digs (l : List UInt8) : Bool := !l.isEmpty && l.all dgB

theorem get_list (s : ByteArray) (k : Nat) (h : k < s.size) : s[k] = s.data.toList[k]'(by simpa using h) := by simp; rfl
theorem digs_step (s : ByteArray) (k : Nat) (h : k < s.size) : (s.data.toList.drop k).all dgB = (dgB s[k] && (s.data.toList.drop (k + 1)).all dgB) := by
  rw [List.drop_eq_getElem_cons (by simpa using h), List.all_cons, get_list s k h]
theorem dgB_lo (c : UInt8) (h : (c.toNat : Int) < 48) : dgB c = false := by unfold dgB; simp; omega
theorem dgB_hi (c : UInt8) (h : (57 : Int) < c.toNat) : dgB c = false := by unfold dgB; simp; omega
theorem dgB_in (c : UInt8) (h : (48 : Int) ≤ c.toNat) (g : (c.toNat : Int) ≤ 57) : dgB c = true := by unfold dgB; simp; omega

theorem isDigits_any (s : ByteArray) (hs : s.size ≤ 2000) (w : World) : Calls Try.prog 53 #[.string s] w fun e w' => e = .returned (.bool (digs s.data.toList)) ∧ w = w' := by
  have HE := Lib.hid (ByteArray.toList_eq s)
  go_enter Try.func53, Try.ntmps53
  go_wp2_with fail
  go_loop [3, 6] (fun u i => ∃ k : Nat, k ≤ s.size ∧ i = .int .i64 k ∧ Hid (digs s.data.toList = (!s.data.toList.isEmpty && (s.data.toList.drop k).all dgB))) (fun _ i => s.size - (intOf i).toNat)
  case atStart => exact ⟨0, by omega, rfl, Lib.hid rfl⟩
  case round =>
    obtain ⟨k, hk, rfl, hd⟩ := hrel
    by_cases hlt : k < s.size
    · have HS := Lib.hid (digs_step s k hlt)
      by_cases c1 : (s[k].toNat : Int) < 48
      · have h0 : Hid (digs s.data.toList = false) := Lib.hid (by rw [hd.out, HS.out, dgB_lo _ c1]; simp)
        go_wp2_with fail
        go_ret
        exact ⟨by rw [h0.out]; rfl, rfl⟩
      · by_cases c2 : (57 : Int) < s[k].toNat
        · have h0 : Hid (digs s.data.toList = false) := Lib.hid (by rw [hd.out, HS.out, dgB_hi _ c2]; simp)
          go_wp2_with fail
          go_ret
          exact ⟨by rw [h0.out]; rfl, rfl⟩
        · have h0 : Hid (digs s.data.toList = (!s.data.toList.isEmpty && (s.data.toList.drop (k + 1)).all dgB)) := Lib.hid (by rw [hd.out, HS.out, dgB_in _ (by omega) (by omega)]; simp)
          go_wp2_with fail
          go_round
          case rel => exact ⟨k + 1, by omega, by go_num, h0⟩
          case measure => simp [intOf]; omega
    · have h0 : Hid (digs s.data.toList = !s.data.toList.isEmpty) := Lib.hid (by rw [hd.out, List.drop_eq_nil_of_le (by simp; omega)]; simp)
      go_wp2_with fail
      go_ret
      exact ⟨by rw [h0.out, ← HE.out]; rfl, rfl⟩

/-- a string of these bytes -/
def st (l : List UInt8) : ByteArray := ⟨l.toArray⟩
theorem st_size (l : List UInt8) : (st l).size = l.length := by simp [st, ByteArray.size]
theorem st_list (l : List UInt8) : (st l).data.toList = l := by simp [st]
theorem st_eq (s : ByteArray) : s = st s.data.toList := by apply ByteArray.ext; simp [st]
theorem st_extract (l : List UInt8) (i j : Nat) : (st l).extract i j = st ((l.take j).drop i) := by
  apply ByteArray.ext
  apply Array.toList_inj.1
  simp [st, List.extract_eq_drop_take']

theorem cutPrefix_yes (l : List UInt8) (hs : l.length ≤ 2000) (w : World) : Calls Try.prog 51 #[.string (st (45 :: l)), .string { data := #[45] }] w fun e w' => e = .returned (.tuple #[.string (st l), .bool true]) ∧ w = w' := by
  have h1 : ((st (45 :: l)).extract 0 1).toList = [45] := by rw [st_extract, ByteArray.toList_eq, st_list]; simp
  have h2 : (st (45 :: l)).extract 1 (l.length + 1) = st l := by rw [st_extract]; simp
  have h3 : (st (45 :: l)).size = l.length + 1 := by rw [st_size]; rfl
  go_enter Try.func51, Try.ntmps51
  go_wp2
  go_ret2
  exact ⟨rfl, rfl⟩
theorem cutPrefix_no (l : List UInt8) (hs : l.length ≤ 2000) (hl : ∀ t, l ≠ 45 :: t) (w : World) : Calls Try.prog 51 #[.string (st l), .string { data := #[45] }] w fun e w' => e = .returned (.tuple #[.string (st l), .bool false]) ∧ w = w' := by
  have h3 : (st l).size = l.length := st_size l
  by_cases h0 : l.length = 0
  · have h0' : ¬ (1 : Int) ≤ (l.length : Int) := by omega
    go_enter Try.func51, Try.ntmps51
    go_wp2
    go_ret2
    exact ⟨rfl, rfl⟩
  · have h1 : (((st l).extract 0 1).toList == [45]) = false := by
      rw [st_extract, ByteArray.toList_eq, st_list]
      cases l with
      | nil => exact absurd rfl h0
      | cons c t =>
        have : c ≠ 45 := fun e => hl t (by rw [e])
        simpa using this
    have h0' : (1 : Int) ≤ (l.length : Int) := by omega
    clear hl
    go_enter Try.func51, Try.ntmps51
    go_wp2
    go_ret2
    exact ⟨rfl, rfl⟩
theorem st_get (l : List UInt8) (i : Nat) (h : i < l.length) : (st l)[i]! = l[i] := by
  have h' : i < (st l).size := by rw [st_size]; exact h
  rw [getElem!_pos (st l) i h', get_list (st l) i h']
  simp only [st_list]
theorem firstIdx_at (a b : List UInt8) (c : UInt8) (h : c ∉ a) : firstIdx (st (a ++ c :: b)) c = (a.length : Int) := by
  unfold firstIdx
  have e : (List.range (st (a ++ c :: b)).size).find? (fun i => (st (a ++ c :: b))[i]! == c) = some a.length := by
    rw [List.find?_range_eq_some]
    refine ⟨?_, ?_, ?_⟩
    · rw [st_get _ _ (by simp)]; simp
    · rw [st_size]; simp
    · intro j hj
      rw [st_get _ _ (by simp; omega), List.getElem_append_left hj]
      have : a[j] ≠ c := fun e => h (e ▸ List.getElem_mem hj)
      simpa using this
  rw [e]
theorem ext_run (S : ByteArray) (I : Int) (h : firstIdx S 46 = I) : ∀ w, (callFunc 63 #[.string S, .int .u8 46]).run Try.prog w = .ok (.value (.int .i64 I)) w := fun w => by
  have := run_callFunc_extern Try.func63 (by kernel_rfl) (by kernel_rfl) (by kernel_rfl) (by kernel_rfl : Extern.find Try.f63 = some Extern.BytealgIndexByte.indexByte) #[.string S, .int .u8 46] w
  rw [this, run_indexByte_string, show ((46 : Int).toNat.toUInt8) = 46 from rfl, h]
  rfl
/-- Cut, where the search tells i -/
theorem cut_of (S : ByteArray) (i : Nat) (A B : ByteArray) (E : Bool) (hs : S.size ≤ 2000) (hi : i < S.size) (hx : firstIdx S 46 = (i : Int)) (h1 : S.extract 0 i = A) (h2 : S.extract (i + 1) S.size = B) (hE : ([46] == S.toList) = E) (hE' : E = true → i = 0) (w : World) :
    Calls Try.prog 52 #[.string S, .string { data := #[46] }] w fun e w' => e = .returned (.tuple #[.string A, .string B, .bool true]) ∧ ∃ n, w' = w.drewN n := by
  have hx := ext_run S i hx
  have hb : ({ data := #[46] } : ByteArray)[0].toNat = 46 := rfl
  have h0 : (0 : Int) ≤ (i : Int) := Int.natCast_nonneg _
  cases E
  · clear hE'
    go_enter Try.func52, Try.ntmps52
    go_wp2
    go_quiet (fail)
    go_wp2
    go_ret3
    exact ⟨rfl, nq, rfl⟩
  · have hE' := hE' rfl
    subst hE'
    obtain rfl : A = ByteArray.empty := by rw [← h1]; simp
    clear h1
    go_enter Try.func52, Try.ntmps52
    go_wp2
    go_quiet (fail)
    go_wp2
    go_ret3
    exact ⟨rfl, nq, rfl⟩
theorem cut_not (S : ByteArray) (hx : firstIdx S 46 = -1) (hE : ([46] == S.toList) = false) (w : World) :
    Calls Try.prog 52 #[.string S, .string { data := #[46] }] w fun e w' => e = .returned (.tuple #[.string S, .string { data := #[] }, .bool false]) ∧ ∃ n, w' = w.drewN n := by
  have hx := ext_run S (-1) hx
  have hb : ({ data := #[46] } : ByteArray)[0].toNat = 46 := rfl
  go_enter Try.func52, Try.ntmps52
  go_wp2
  go_ret3
  exact ⟨rfl, 0, rfl⟩
theorem cut_yes (a b : List UInt8) (hs : (a ++ 46 :: b).length ≤ 2000) (ha : 46 ∉ a) (w : World) : Calls Try.prog 52 #[.string (st (a ++ 46 :: b)), .string { data := #[46] }] w fun e w' => e = .returned (.tuple #[.string (st a), .string (st b), .bool true]) ∧ ∃ n, w' = w.drewN n := by
  refine cut_of (st (a ++ 46 :: b)) a.length (st a) (st b) _ (by rw [st_size]; exact hs) (by rw [st_size]; simp) (firstIdx_at a b 46 ha) ?_ ?_ rfl ?_ w
  · rw [st_extract]; simp
  · rw [st_extract, List.take_of_length_le (by rw [st_size]; exact Nat.le_refl _)]
    rw [show a ++ 46 :: b = (a ++ [46]) ++ b by simp, List.drop_left' (by simp)]
  · intro h
    rw [ByteArray.toList_eq, st_list, beq_iff_eq] at h
    have := congrArg List.length h
    rw [List.length_append] at this
    simp only [List.length_cons, List.length_nil] at this
    omega
theorem cut_no (l : List UInt8) (ha : 46 ∉ l) (w : World) : Calls Try.prog 52 #[.string (st l), .string { data := #[46] }] w fun e w' => e = .returned (.tuple #[.string (st l), .string (st []), .bool false]) ∧ ∃ n, w' = w.drewN n := by
  refine cut_not (st l) (firstIdx_none (st l) 46 fun c hc e => ?_) ?_ w
  · rw [st_list] at hc; exact ha (e ▸ hc)
  · rw [ByteArray.toList_eq, st_list, beq_eq_false_iff_ne]
    intro e
    exact ha (e ▸ List.mem_singleton.2 rfl)
end Go.Proofs.Ytodpglladcblhaa
