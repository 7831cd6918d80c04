/- Contracts of crc.More, over the table's cells. -/
import Derived.Test.YtkaigmgnmdhngaaDoorMath
import Derived.WalkKit
import Derived.ProofKit
import Derived.OpenShut
import Derived.Handy
import Derived.Lib.Hide
import Derived.LoopTactic
import Derived.Laws.BitsAllLaws
import Derived.Laws.BytesArg
import Derived.OwnWalk
namespace Go.Proofs.YtkaigmgnmdhngaaDoor
open Go.ChangeShapes Go.WideShapes Go.ChangeAt Go.RowKit

theorem ret_int {k : IntKind} {a b : Int} (h : a = b) : Ending.returned (.int k a) = .returned (.int k b) := by rw [h]
theorem ret_val {k : IntKind} {a b : Int} (h : a = b) : Value.int k a = Value.int k b := by rw [h]
/-- the table's cells -/
def Tab (w : World) : Prop := ∀ i, i < 16 → w.cell? ⟨0, i, none⟩ = some (.int .u32 ((s4 i : Nat) : Int))
theorem tab_later {w W : World} (h : Tab w) (hb : Below w.heap.size w W) : Tab W := fun i hi => by
  rw [hb.cell (World.block_lt_of_cell? w _ (h i hi))]; exact h i hi
/-- bytes to be read: whatever slice -/
def Src (w : World) (sp : Option Addr) (L : List Nat) : Prop := 0 < L.length → ∃ g o, sp = some ⟨g, o, none⟩ ∧ ∀ i, i < L.length → w.cell? ⟨g, o + i, none⟩ = some (.int .u8 ((L.getD i 0 : Nat) : Int))
theorem src_later {w W : World} {sp : Option Addr} {L : List Nat} (h : Src w sp L) (hb : Below w.heap.size w W) : Src W sp L := fun hp => by
  obtain ⟨g, o, e, hc⟩ := h hp
  exact ⟨g, o, e, fun i hi => by rw [hb.cell (World.block_lt_of_cell? w _ (hc i hi))]; exact hc i hi⟩
theorem getD_byte {L : List Nat} (hB : ∀ b ∈ L, b < 256) (k : Nat) : L.getD k 0 < 256 := by
  by_cases h : k < L.length
  · have e : L.getD k 0 = L[k] := by simp [List.getD, h]
    rw [e]; exact hB _ (List.getElem_mem h)
  · have e : L.getD k 0 = 0 := by simp [List.getD, h]
    omega
theorem take_succ_get (L : List Nat) (k : Nat) (h : k < L.length) : L.take (k + 1) = L.take k ++ [L.getD k 0] := by
  rw [List.take_add_one]; simp [List.getD, h]
theorem not_u32 (x : Nat) (h : x < 4294967296) : bits .xor .u32 IntKind.u32.max (x : Int) = ((4294967295 - x : Nat) : Int) := by
  have e2 : bits .xor .u32 IntKind.u32.max (x : Int) = ((4294967295 ^^^ x : Nat) : Int) := u32_xor_nat 4294967295 x (by decide) (by omega)
  have e3 : 4294967295 ^^^ x = 4294967295 - x := by
    have e := BitVec.toNat_not (x := BitVec.ofNat 32 x)
    have e4 : ~~~ (BitVec.ofNat 32 x) = BitVec.allOnes 32 ^^^ BitVec.ofNat 32 x := BitVec.not_def
    rw [e4, BitVec.toNat_xor, BitVec.toNat_allOnes, BitVec.toNat_ofNat, Nat.mod_eq_of_lt (show x < 2 ^ 32 from h)] at e
    exact e
  rw [e2, e3]
theorem and15 (x : Nat) (h : x < 4294967296) : bits .and .u32 (x : Int) 15 = ((x % 16 : Nat) : Int) := by
  have e : bits .and .u32 (x : Int) ((15 : Nat) : Int) = _ := u32_and_nat x 15 (by omega) (by decide)
  rw [Nat.and_two_pow_sub_one_eq_mod x 4] at e
  exact e
set_option maxRecDepth 20000 in
set_option maxHeartbeats 1000000 in
theorem more_any (s : Nat) (hs : s < 4294967296) (sp : Option Addr) (cap : Nat) (L : List Nat) (hn : L.length ≤ 1000000) (hB : ∀ b ∈ L, b < 256) (w : World) (ht : Hid (Tab w)) (hc : Hid (Src w sp L)) :
    Calls Tryd.prog 12 #[.int .u32 (s : Int), .slice sp L.length cap] w fun e w' => e = .returned (.int .u32 ((4294967295 - run (4294967295 - s) L : Nat) : Int)) ∧ w = w' := by
  obtain ⟨n, hL⟩ : ∃ n, L.length = n := ⟨_, rfl⟩
  have HL : Hid (True → L.length = n) := Lib.hid fun _ => hL
  rw [hL] at hn ⊢
  clear hL
  obtain ⟨r0, hr0, hr0l⟩ : ∃ r0, 4294967295 - s = r0 ∧ r0 < 4294967296 := ⟨_, rfl, by omega⟩
  have e0 : bits .xor .u32 IntKind.u32.max (s : Int) = (r0 : Int) := by rw [not_u32 s hs, hr0]
  rw [hr0]
  clear hr0 hs
  have HR : Hid (True → r0 < 4294967296) := Lib.hid fun _ => hr0l
  clear hr0l
  go_enter Tryd.func12, Tryd.ntmps12
  go_wp2_with fail
  clear e0
  go_loop [5, 12] (fun r i => ∃ x k : Nat, r = .int .u32 (x : Int) ∧ i = .int .i64 (k : Int) ∧ k ≤ n ∧ Hid (True → x = run r0 (L.take k))) (fun _ i => n - (intOf i).toNat)
  case atStart => exact ⟨r0, 0, rfl, rfl, by omega, Lib.hid fun _ => rfl⟩
  case round =>
    obtain ⟨x, k, rfl, rfl, hkn, hx⟩ := hrel
    by_cases hk : k < n
    · have hkL : Hid (True → k < L.length) := Lib.hid fun _ => by rw [HL.out trivial]; exact hk
      have hxl : Hid (True → x < 4294967296) := Lib.hid fun _ => by rw [hx.out trivial]; exact run_lt _ _ (HR.out trivial) fun b hb => hB b (List.mem_of_mem_take hb)
      obtain ⟨g, o, rfl, hcc⟩ := hc.out (by have := hkL.out trivial; omega)
      obtain ⟨c, hgc⟩ : ∃ c, L.getD k 0 = c := ⟨_, rfl⟩
      have hcell := hcc k (hkL.out trivial)
      rw [hgc] at hcell
      have hc256 : c < 256 := by rw [← hgc]; exact getD_byte hB k
      have hxl' := hxl.out trivial
      have hy : x ^^^ c < 4294967296 := Nat.xor_lt_two_pow (n := 32) hxl' (by omega)
      have f1 : bits .xor .u32 (x : Int) (c : Int) = ((x ^^^ c : Nat) : Int) := u32_xor_nat x c hxl' (by omega)
      obtain ⟨y, hyy⟩ : ∃ y, x ^^^ c = y := ⟨_, rfl⟩
      rw [hyy] at f1 hy
      obtain ⟨i1, hi1⟩ : ∃ i, y % 16 = i := ⟨_, rfl⟩
      have hi1l : i1 < 16 := by omega
      have f2 : bits .and .u32 (y : Int) 15 = (i1 : Int) := by rw [and15 y hy, hi1]
      obtain ⟨t1, ht1⟩ : ∃ t, s4 i1 = t := ⟨_, rfl⟩
      have g1 := ht.out i1 hi1l
      rw [ht1] at g1
      obtain ⟨z, hz⟩ : ∃ z, s4 y = z := ⟨_, rfl⟩
      have hzl : z < 4294967296 := by rw [← hz]; exact s4_lt y hy
      have ht1l : t1 < 4294967296 := by rw [← ht1]; exact s4_lt i1 (by omega)
      have f3 : bits .xor .u32 ((y : Int) / 16) (t1 : Int) = (z : Int) := by
        rw [show (y : Int) / 16 = ((y / 16 : Nat) : Int) by omega, u32_xor_nat (y / 16) t1 (by omega) ht1l, ← ht1, ← hi1, s4_nib, hz]
      obtain ⟨i2, hi2⟩ : ∃ i, z % 16 = i := ⟨_, rfl⟩
      have hi2l : i2 < 16 := by omega
      have f4 : bits .and .u32 (z : Int) 15 = (i2 : Int) := by rw [and15 z hzl, hi2]
      obtain ⟨t2, ht2⟩ : ∃ t, s4 i2 = t := ⟨_, rfl⟩
      have g2 := ht.out i2 hi2l
      rw [ht2] at g2
      have ht2l : t2 < 4294967296 := by rw [← ht2]; exact s4_lt i2 (by omega)
      obtain ⟨v, hv⟩ : ∃ v, s4 z = v := ⟨_, rfl⟩
      have f5 : bits .xor .u32 ((z : Int) / 16) (t2 : Int) = (v : Int) := by
        rw [show (z : Int) / 16 = ((z / 16 : Nat) : Int) by omega, u32_xor_nat (z / 16) t2 (by omega) ht2l, ← ht2, ← hi2, s4_nib, hv]
      have HV : Hid (True → v = run r0 (L.take (k + 1))) := Lib.hid fun _ => by
        rw [take_succ_get L k (hkL.out trivial), run_append, ← hx.out trivial, hgc]
        show v = s4 (s4 (x ^^^ c))
        rw [hyy, hz, hv]
      clear hgc hcc hyy hi1 ht1 hz hi2 ht2 hv hkL hx hxl
      go_wp2_with fail
      go_round
      case rel => exact ⟨v, k + 1, rfl, by go_num, by omega, HV⟩
      case measure => simp [intOf]; omega
    · have hkn2 : k = n := by omega
      have HX : Hid (True → bits .xor .u32 IntKind.u32.max (x : Int) = ((4294967295 - run r0 L : Nat) : Int)) := Lib.hid fun _ => by
        have e := hx.out trivial
        rw [List.take_of_length_le (by rw [HL.out trivial]; omega)] at e
        rw [e, not_u32 _ (run_lt _ _ (HR.out trivial) hB)]
      clear hkn2 hx
      go_wp2_with fail
      go_ret
      exact ⟨ret_int (HX.out trivial), rfl⟩
end Go.Proofs.YtkaigmgnmdhngaaDoor
