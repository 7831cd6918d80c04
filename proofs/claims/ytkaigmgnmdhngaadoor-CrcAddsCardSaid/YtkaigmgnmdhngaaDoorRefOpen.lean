/- Contracts of the document's Open. -/
import Derived.Test.YtkaigmgnmdhngaaDoorBursts
import Derived.Deep.RegionHeld3
import Derived.Deep.QuietTactic
import Derived.BigQuiet
namespace Go.Proofs.YtkaigmgnmdhngaaDoor
open Go.ChangeShapes Go.WideShapes Go.ChangeAt Go.RowKit Go.Joins
set_option linter.unusedVariables false

theorem below_drewN {B : Nat} {a w : World} (h : Below B a w) (k : Nat) : Below B a (w.drewN k) := ⟨h.os, h.tape, h.output, h.size, h.block⟩
theorem four_acc (D : List Nat) (hB : ∀ b ∈ D, b < 256) (h : D.length = 4) : four (acc D 4) = D := by
  match D, h with
  | [a, b, c, d], _ =>
    have h1 := hB a (by simp)
    have h2 := hB b (by simp)
    have h3 := hB c (by simp)
    have h4 := hB d (by simp)
    have e : acc [a, b, c, d] 4 = a + 256 * b + 65536 * c + 16777216 * d := by
      show 0 + a * 2 ^ (8 * 0) + b * 2 ^ (8 * 1) + c * 2 ^ (8 * 2) + d * 2 ^ (8 * 3) = _
      omega
    rw [e]
    unfold four
    congr 1
    · omega
    congr 1
    · omega
    congr 1
    · omega
    congr 1
    omega
theorem sv_inj {a b : List Nat} (ha : ∀ x ∈ a, x < 256) (hb : ∀ x ∈ b, x < 256) (h : sv a = sv b) : a = b := by
  rw [← sv_bytes a ha, ← sv_bytes b hb, h]
theorem opens_sv (L : List Nat) (hB : ∀ b ∈ L, b < 256) (h4 : 4 ≤ L.length) : Opens L ↔ sv (four (crcOf (L.take (L.length - 4)))) = sv (L.drop (L.length - 4)) := by
  have hD : (L.drop (L.length - 4)).length = 4 := by rw [List.length_drop]; omega
  have hBD : ∀ b ∈ L.drop (L.length - 4), b < 256 := fun b hb => hB b (List.mem_of_mem_drop hb)
  unfold Opens
  constructor
  · rintro ⟨_, h⟩
    rw [← h, four_acc _ hBD hD]
  · intro h
    refine ⟨h4, ?_⟩
    rw [← sv_inj (four_byte _) hBD h, acc_four _ (crcOf_le _)]
theorem sv_take (L : List Nat) (n : Nat) : (sv L).extract 0 n = sv (L.take n) := by
  apply ByteArray.ext
  apply Array.toList_inj.1
  simp [sv, strOfNums]
theorem sv_drop (L : List Nat) (n : Nat) : (sv L).extract n (sv L).size = sv (L.drop n) := by
  apply ByteArray.ext
  apply Array.toList_inj.1
  simp [sv, strOfNums, ByteArray.size]
  exact List.take_of_length_le (by simp)
set_option maxRecDepth 20000 in
set_option maxHeartbeats 2000000 in
theorem refOpen_short (s : ByteArray) (hs : s.size < 4) (w : World) :
    Calls Tryd.prog 15 #[.string s] w fun e w' => e = .returned (.tuple #[.string ⟨#[]⟩, .bool false]) ∧ Below w.heap.size w w' := by
  have hd : decide ((s.size : Int) < 4) = true := by simpa using (show (s.size : Int) < 4 by omega)
  go_enter Tryd.func15, Tryd.ntmps15
  go_wp2_with fail
  go_quiet (fail)
  go_wp2
  go_ret2
  exact ⟨rfl, below_drewN (Below.refl _ w) _⟩
theorem str_ne {a b : ByteArray} (h : ¬ a = b) : (!a.toList == b.toList) = true := by
  simp only [Bool.not_eq_true', beq_eq_false_iff_ne]
  intro e
  rw [ByteArray.toList_eq, ByteArray.toList_eq] at e
  exact h (ByteArray.ext (Array.toList_inj.1 e))
set_option maxRecDepth 20000 in
set_option maxHeartbeats 2000000 in
theorem refOpen_yes (s sT sD : ByteArray) (m : Nat) (hs : s.size = m + 4) (hm : m ≤ 5000) (S : Nat) (hS : S < 4294967296) (w : World) (hs1 : s.extract 0 m = sT) (hs2 : s.extract m (m + 4) = sD) (he : sv (four S) = sD)
    (HR : Hid (∀ W, Calls Tryd.prog 9 #[.string sT] W fun e w' => e = .returned (.int .u32 (S : Int)) ∧ W = w')) :
    Calls Tryd.prog 15 #[.string s] w fun e w' => e = .returned (.tuple #[.string sT, .bool true]) ∧ Below w.heap.size w w' := by
  obtain ⟨F, hF⟩ : ∃ F, sv (four S) = F := ⟨_, rfl⟩
  have H4 := Lib.hid (fun W => four_any S hS W)
  rw [hF] at H4 he
  clear hF
  have hd : decide ((m : Int) + 4 < 4) = false := decide_eq_false (by omega)
  have hle : (m : Int) ≤ (m : Int) + 4 := by omega
  have hsub : IntKind.i64.wrap ((m : Int) + 4 - 4) = (m : Int) := by rw [IntKind.wrap_i64]; omega
  have hsub2 : IntKind.i64.wrap (m : Int) = (m : Int) := by rw [IntKind.wrap_i64]; omega
  subst he
  go_enter Tryd.func15, Tryd.ntmps15
  go_wp2_with fail
  go_region_held3 (fun _ => True) (trivial) (first
    | (go_at_call 9; refine (HR.out _).mono ?_; rintro e w1 ⟨rfl, rfl⟩)
    | (go_at_call 16; refine (H4.out _).mono ?_; rintro e w2 ⟨rfl, hb'⟩; have hb := Lib.hid hb'; clear hb'))
  all_goals
    go_wp2
    go_ret2
    exact ⟨rfl, chain2 (Below.refl _ w).drew hb.out⟩
set_option maxRecDepth 20000 in
set_option maxHeartbeats 2000000 in
theorem refOpen_no (s sT sD : ByteArray) (m : Nat) (hs : s.size = m + 4) (hm : m ≤ 5000) (S : Nat) (hS : S < 4294967296) (w : World) (hs1 : s.extract 0 m = sT) (hs2 : s.extract m (m + 4) = sD) (he : ¬ sv (four S) = sD)
    (HR : Hid (∀ W, Calls Tryd.prog 9 #[.string sT] W fun e w' => e = .returned (.int .u32 (S : Int)) ∧ W = w')) :
    Calls Tryd.prog 15 #[.string s] w fun e w' => e = .returned (.tuple #[.string ⟨#[]⟩, .bool false]) ∧ Below w.heap.size w w' := by
  obtain ⟨F, hF⟩ : ∃ F, sv (four S) = F := ⟨_, rfl⟩
  have H4 := Lib.hid (fun W => four_any S hS W)
  rw [hF] at H4 he
  clear hF
  have hd : decide ((m : Int) + 4 < 4) = false := decide_eq_false (by omega)
  have hle : (m : Int) ≤ (m : Int) + 4 := by omega
  have hsub : IntKind.i64.wrap ((m : Int) + 4 - 4) = (m : Int) := by rw [IntKind.wrap_i64]; omega
  have hsub2 : IntKind.i64.wrap (m : Int) = (m : Int) := by rw [IntKind.wrap_i64]; omega
  have hne := str_ne he
  go_enter Tryd.func15, Tryd.ntmps15
  go_wp2_with fail
  go_region_held3 (fun _ => True) (trivial) (first
    | (go_at_call 9; refine (HR.out _).mono ?_; rintro e w1 ⟨rfl, rfl⟩)
    | (go_at_call 16; refine (H4.out _).mono ?_; rintro e w2 ⟨rfl, hb'⟩; have hb := Lib.hid hb'; clear hb'))
  all_goals
    go_wp2
    go_ret2
    exact ⟨rfl, chain2 (Below.refl _ w).drew hb.out⟩
/-- the document's Open of a row of bytes -/
def openT (L : List Nat) : List Nat := L.take (L.length - 4)
theorem refOpen_opens (L : List Nat) (hn : L.length ≤ 5000) (hB : ∀ b ∈ L, b < 256) (hO : Opens L) (w : World) :
    Calls Tryd.prog 15 #[.string (sv L)] w fun e w' => e = .returned (.tuple #[.string (sv (openT L)), .bool true]) ∧ Below w.heap.size w w' := by
  have h4 := hO.1
  have hBT : ∀ b ∈ L.take (L.length - 4), b < 256 := fun b hb => hB b (List.mem_of_mem_take hb)
  refine refOpen_yes (sv L) _ (sv (L.drop (L.length - 4))) (L.length - 4) (by rw [sv_size]; omega) (by omega) (crcOf (L.take (L.length - 4))) (crcOf_le _) w (sv_take _ _) ?_ ((opens_sv L hB h4).1 hO) (Lib.hid fun W => refSum_sv _ (by rw [List.length_take]; omega) hBT W)
  rw [← sv_drop, sv_size]
  congr 1; omega
theorem refOpen_not (L : List Nat) (hn : L.length ≤ 5000) (hB : ∀ b ∈ L, b < 256) (hO : ¬ Opens L) (w : World) :
    Calls Tryd.prog 15 #[.string (sv L)] w fun e w' => e = .returned (.tuple #[.string ⟨#[]⟩, .bool false]) ∧ Below w.heap.size w w' := by
  by_cases h4 : 4 ≤ L.length
  · have hBT : ∀ b ∈ L.take (L.length - 4), b < 256 := fun b hb => hB b (List.mem_of_mem_take hb)
    refine refOpen_no (sv L) _ (sv (L.drop (L.length - 4))) (L.length - 4) (by rw [sv_size]; omega) (by omega) (crcOf (L.take (L.length - 4))) (crcOf_le _) w (sv_take _ _) ?_ (fun h => hO ((opens_sv L hB h4).2 h)) (Lib.hid fun W => refSum_sv _ (by rw [List.length_take]; omega) hBT W)
    rw [← sv_drop, sv_size]
    congr 1; omega
  · exact refOpen_short (sv L) (by rw [sv_size]; omega) w
end Go.Proofs.YtkaigmgnmdhngaaDoor
