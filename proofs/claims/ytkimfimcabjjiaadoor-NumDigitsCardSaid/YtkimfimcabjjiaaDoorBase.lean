/- Contracts of Wrap, Add, Div, isDigits, CutPrefix (at '-') and 'counts'. -/
import Derived.Test.YtkimfimcabjjiaaDoorRows
import Derived.WalkKit
import Derived.ProofKit
import Derived.OpenShut
import Derived.Handy
import Derived.WalkLawsBesides
import Derived.BigQuiet
import Derived.Deep.QuietTactic
import Derived.Lib.Hide
import Derived.LoopTactic
import Derived.Laws.Externs
import Derived.Laws.Runes
namespace Go.Proofs.YtkimfimcabjjiaaDoor
open Go.ChangeShapes Go.WideShapes Go.ChangeAt Go.RowKit

theorem ret_int {k : IntKind} {a b : Int} (h : a = b) : Ending.returned (.int k a) = .returned (.int k b) := by rw [h]
theorem ret_int2 {k l : IntKind} {a b c d : Int} (h : a = b) (g : c = d) : Ending.returned (.tuple #[.int k a, .int l c]) = .returned (.tuple #[.int k b, .int l d]) := by rw [h, g]
theorem ret_int3 {k l m : IntKind} {a b c d e f : Int} (h : a = b) (g : c = d) (i : e = f) : Ending.returned (.tuple #[.int k a, .int l c, .int m e]) = .returned (.tuple #[.int k b, .int l d, .int m f]) := by rw [h, g, i]

/-- An integer's wrap: 63 bits, going round. -/
def w63 (n : Int) : Int := (n + 4611686018427387904) % 9223372036854775808 - 4611686018427387904
theorem w63_lo (n : Int) : -4611686018427387904 ≤ w63 n := by unfold w63; omega
theorem w63_hi (n : Int) : w63 n ≤ 4611686018427387903 := by unfold w63; omega
theorem w63_wrap64 (n : Int) : w63 (wrap64 n) = w63 n := by unfold w63 wrap64; omega
theorem w63_add (a b : Int) : w63 (w63 a + w63 b) = w63 (a + b) := by unfold w63; omega
theorem w63_sub (a b : Int) : w63 (w63 a - w63 b) = w63 (a - b) := by unfold w63; omega
theorem w63_w63 (a : Int) : w63 (w63 a) = w63 a := by unfold w63; omega
theorem shl_shr (n : Int) : wrap64 (n * 2) / 2 = w63 n := by unfold w63 wrap64; omega
theorem shl_shr' (n : Int) : wrap64 (IntKind.u64.wrap (IntKind.u64.wrap n * 2)) / 2 = w63 n := by
  simp only [IntKind.wrap_u64]; unfold w63 wrap64; omega

theorem wrap_any (n : Int) (w : World) : Calls Tryd.prog 9 #[.int .i64 n] w fun e w' => e = .returned (.int .i64 (w63 n)) ∧ w = w' := by
  go_enter Tryd.func9, Tryd.ntmps9
  go_wp2
  go_ret
  exact ⟨ret_int (shl_shr n), rfl⟩
theorem refWrap_any (n : Int) (w : World) : Calls Tryd.prog 15 #[.int .i64 n] w fun e w' => e = .returned (.int .i64 (w63 n)) ∧ w = w' := by
  go_enter Tryd.func15, Tryd.ntmps15
  go_wp2
  go_ret
  exact ⟨ret_int (shl_shr' n), rfl⟩
theorem add_any (a b : Int) (w : World) : Calls Tryd.prog 11 #[.int .i64 a, .int .i64 b] w fun e w' => e = .returned (.int .i64 (w63 (a + b))) ∧ w = w' := by
  go_enter Tryd.func11, Tryd.ntmps11
  go_wp2_with (go_at_call 9; refine (wrap_any _ _).mono ?_; rintro e w' ⟨rfl, rfl⟩)
  go_ret
  exact ⟨ret_int (by first | exact w63_wrap64 _ | rfl), rfl⟩
/-- Quotient and rest, cut towards nought; the least by -1 goes round. -/
def quo63 (a b : Int) : Int := w63 ((w63 a).tdiv (w63 b))
def rem63 (a b : Int) : Int := (w63 a).tmod (w63 b)
theorem tdiv_bd (x y : Int) (hx : -4611686018427387904 ≤ x) (hx' : x ≤ 4611686018427387903) : -4611686018427387904 ≤ x.tdiv y ∧ x.tdiv y ≤ 4611686018427387904 := by
  have h : (x.tdiv y).natAbs ≤ x.natAbs := by rw [Int.natAbs_tdiv]; exact Nat.div_le_self _ _
  omega
theorem tmod_bd (x y : Int) (hx : -4611686018427387904 ≤ x) (hx' : x ≤ 4611686018427387903) : -4611686018427387904 ≤ x.tmod y ∧ x.tmod y ≤ 4611686018427387904 := by
  have h : (x.tmod y).natAbs ≤ x.natAbs := by rw [Int.natAbs_tmod]; exact Nat.mod_le _ _
  omega
theorem quo_wrap (a b : Int) : w63 (wrap64 ((w63 a).tdiv (w63 b))) = quo63 a b := w63_wrap64 _

theorem div_ok (a b : Int) (w : World) (h : w63 b ≠ 0) : Calls Tryd.prog 10 #[.int .i64 a, .int .i64 b] w fun e w' => e = .returned (.tuple #[.int .i64 (quo63 a b), .int .i64 0]) ∧ w = w' := by
  have h0 : (w63 b == 0) = false := by simpa using h
  have h1 := w63_lo a
  have h2 := w63_hi a
  have h3 := w63_lo b
  have h4 := w63_hi b
  go_enter Tryd.func10, Tryd.ntmps10
  go_wp2_with (go_at_call 9; refine (wrap_any _ _).mono ?_; rintro e w' ⟨rfl, rfl⟩)
  go_ret2
  exact ⟨ret_int2 (by first | exact quo_wrap _ _ | rfl) rfl, rfl⟩
theorem div_no (a b : Int) (w : World) (h : w63 b = 0) : Calls Tryd.prog 10 #[.int .i64 a, .int .i64 b] w fun e w' => e = .returned (.tuple #[.int .i64 0, .int .i64 1]) ∧ w = w' := by
  have h0 : (w63 b == 0) = true := by simpa using h
  clear h
  go_enter Tryd.func10, Tryd.ntmps10
  go_wp2_with (go_at_call 9; refine (wrap_any _ _).mono ?_; rintro e w' ⟨rfl, rfl⟩)
  go_ret2
  exact ⟨rfl, rfl⟩
theorem counts_any (w : World) : Calls Tryd.prog 4 #[] w fun e w' => e = .returned (.bool true) ∧ w = w' := by
  have e1 : quo63 (-4611686018427387904) (-1) = -4611686018427387904 := by decide
  have e2 : w63 (4611686018427387903 + 1) = -4611686018427387904 := by decide
  have hb : w63 (-1) ≠ 0 := by decide
  have E1 := Lib.hid e1
  have E2 := Lib.hid e2
  clear e1 e2
  go_enter Tryd.func4, Tryd.ntmps4
  go_wp2_with fail
  refine (div_ok _ _ _ hb).mono ?_
  rintro e w' ⟨rfl, rfl⟩
  rw [E1.out]
  go_wp2_with fail
  refine (add_any _ _ _).mono ?_
  rintro e w' ⟨rfl, rfl⟩
  rw [E2.out]
  go_wp2
  go_ret
  exact ⟨rfl, rfl⟩
/-- digits 0 to 9 alone -/
def dgB (c : UInt8) : Bool := 48 ≤ c.toNat && c.toNat ≤ 57
def digs (l : List UInt8) : Bool := !l.isEmpty && l.all dgB

theorem get_list (s : ByteArray) (k : Nat) (h : k < s.size) : s[k] = s.data.toList[k]'(by simpa using h) := by simp; rfl
theorem digs_step (s : ByteArray) (k : Nat) (h : k < s.size) : (s.data.toList.drop k).all dgB = (dgB s[k] && (s.data.toList.drop (k + 1)).all dgB) := by
  rw [List.drop_eq_getElem_cons (by simpa using h), List.all_cons, get_list s k h]
theorem dgB_lo (c : UInt8) (h : (c.toNat : Int) < 48) : dgB c = false := by unfold dgB; simp; omega
theorem dgB_hi (c : UInt8) (h : (57 : Int) < c.toNat) : dgB c = false := by unfold dgB; simp; omega
theorem dgB_in (c : UInt8) (h : (48 : Int) ≤ c.toNat) (g : (c.toNat : Int) ≤ 57) : dgB c = true := by unfold dgB; simp; omega

theorem isDigits_any (s : ByteArray) (hs : s.size ≤ 2000) (w : World) : Calls Tryd.prog 13 #[.string s] w fun e w' => e = .returned (.bool (digs s.data.toList)) ∧ w = w' := by
  have HE := Lib.hid (ByteArray.toList_eq s)
  go_enter Tryd.func13, Tryd.ntmps13
  go_wp2_with fail
  go_loop [3, 6] (fun u i => ∃ k : Nat, k ≤ s.size ∧ i = .int .i64 k ∧ Hid (digs s.data.toList = (!s.data.toList.isEmpty && (s.data.toList.drop k).all dgB))) (fun _ i => s.size - (intOf i).toNat)
  case atStart => exact ⟨0, by omega, rfl, Lib.hid rfl⟩
  case round =>
    obtain ⟨k, hk, rfl, hd⟩ := hrel
    by_cases hlt : k < s.size
    · have HS := Lib.hid (digs_step s k hlt)
      by_cases c1 : (s[k].toNat : Int) < 48
      · have h0 : Hid (digs s.data.toList = false) := Lib.hid (by rw [hd.out, HS.out, dgB_lo _ c1]; simp)
        go_wp2_with fail
        go_ret
        exact ⟨by rw [h0.out]; rfl, rfl⟩
      · by_cases c2 : (57 : Int) < s[k].toNat
        · have h0 : Hid (digs s.data.toList = false) := Lib.hid (by rw [hd.out, HS.out, dgB_hi _ c2]; simp)
          go_wp2_with fail
          go_ret
          exact ⟨by rw [h0.out]; rfl, rfl⟩
        · have h0 : Hid (digs s.data.toList = (!s.data.toList.isEmpty && (s.data.toList.drop (k + 1)).all dgB)) := Lib.hid (by rw [hd.out, HS.out, dgB_in _ (by omega) (by omega)]; simp)
          go_wp2_with fail
          go_round
          case rel => exact ⟨k + 1, by omega, by go_num, h0⟩
          case measure => simp [intOf]; omega
    · have h0 : Hid (digs s.data.toList = !s.data.toList.isEmpty) := Lib.hid (by rw [hd.out, List.drop_eq_nil_of_le (by simp; omega)]; simp)
      go_wp2_with fail
      go_ret
      exact ⟨by rw [h0.out, ← HE.out]; rfl, rfl⟩

/-- a string of these bytes -/
def st (l : List UInt8) : ByteArray := ⟨l.toArray⟩
theorem st_size (l : List UInt8) : (st l).size = l.length := by simp [st, ByteArray.size]
theorem st_list (l : List UInt8) : (st l).data.toList = l := by simp [st]
theorem st_eq (s : ByteArray) : s = st s.data.toList := by apply ByteArray.ext; simp [st]
theorem st_extract (l : List UInt8) (i j : Nat) : (st l).extract i j = st ((l.take j).drop i) := by
  apply ByteArray.ext
  apply Array.toList_inj.1
  simp [st, List.extract_eq_drop_take']

theorem cutPrefix_yes (l : List UInt8) (hs : l.length ≤ 2000) (w : World) : Calls Tryd.prog 12 #[.string (st (45 :: l)), .string { data := #[45] }] w fun e w' => e = .returned (.tuple #[.string (st l), .bool true]) ∧ w = w' := by
  have h1 : ((st (45 :: l)).extract 0 1).toList = [45] := by rw [st_extract, ByteArray.toList_eq, st_list]; simp
  have h2 : (st (45 :: l)).extract 1 (l.length + 1) = st l := by rw [st_extract]; simp
  have h3 : (st (45 :: l)).size = l.length + 1 := by rw [st_size]; rfl
  go_enter Tryd.func12, Tryd.ntmps12
  go_wp2
  go_ret2
  exact ⟨rfl, rfl⟩
theorem cutPrefix_no (l : List UInt8) (hs : l.length ≤ 2000) (hl : ∀ t, l ≠ 45 :: t) (w : World) : Calls Tryd.prog 12 #[.string (st l), .string { data := #[45] }] w fun e w' => e = .returned (.tuple #[.string (st l), .bool false]) ∧ w = w' := by
  have h3 : (st l).size = l.length := st_size l
  by_cases h0 : l.length = 0
  · have h0' : ¬ (1 : Int) ≤ (l.length : Int) := by omega
    go_enter Tryd.func12, Tryd.ntmps12
    go_wp2
    go_ret2
    exact ⟨rfl, rfl⟩
  · have h1 : (((st l).extract 0 1).toList == [45]) = false := by
      rw [st_extract, ByteArray.toList_eq, st_list]
      cases l with
      | nil => exact absurd rfl h0
      | cons c t =>
        have : c ≠ 45 := fun e => hl t (by rw [e])
        simpa using this
    have h0' : (1 : Int) ≤ (l.length : Int) := by omega
    clear hl
    go_enter Tryd.func12, Tryd.ntmps12
    go_wp2
    go_ret2
    exact ⟨rfl, rfl⟩
end Go.Proofs.YtkimfimcabjjiaaDoor
