/- Contracts of one family of functions, put together: Fc. -/
import Derived.Test.YtfhgdcljhncjmaaDoorRows
import Derived.WalkKit
import Derived.ProofKit
import Derived.OpenShut
import Derived.Handy
import Derived.Lib.Hide
import Derived.LoopTactic
import Derived.Laws.BitsAllLaws
import Derived.Laws.BytesArg
import Derived.OwnWalk
import Derived.Lib.SmallJoins
import Derived.Laws.MakeOwn
import Derived.Laws.CopyOwn
import Derived.LaidMore
import Derived.Lib.LaidTab
import Derived.Deep.RegionHeld3
import Derived.Laws.AppendOwnNone
import Derived.RegionTactic
import Derived.Deep.QuietTactic
import Derived.BigQuiet
namespace Go.Proofs.YtfhgdcljhncjmaaDoor.Fc
/-- one bit to the right -/
def s1 (r : Nat) : Nat := r / 2 ^^^ (if r % 2 = 1 then 2197175160 else 0)
theorem xor_par (a b : Nat) : (a ^^^ b) % 2 = (a + b) % 2 := by
  have h := Nat.testBit_xor a b 0
  rw [Nat.testBit_zero, Nat.testBit_zero, Nat.testBit_zero] at h
  rcases Nat.mod_two_eq_zero_or_one a with ha | ha <;> rcases Nat.mod_two_eq_zero_or_one b with hb | hb <;> rcases Nat.mod_two_eq_zero_or_one (a ^^^ b) with hc | hc <;> rw [ha, hb, hc] at h <;> first | omega | (exfalso; revert h; decide)
theorem s1_xor (a b : Nat) : s1 (a ^^^ b) = s1 a ^^^ s1 b := by
  unfold s1
  have h1 : (a ^^^ b) / 2 = a / 2 ^^^ b / 2 := Nat.xor_div_two
  have h2 : (a ^^^ b) % 2 = (a + b) % 2 := xor_par a b
  rw [h1, h2]
  rcases Nat.mod_two_eq_zero_or_one a with ha | ha <;> rcases Nat.mod_two_eq_zero_or_one b with hb | hb
  · rw [if_neg (by omega), if_neg (by omega), if_neg (by omega)]; simp
  · rw [if_pos (by omega), if_neg (by omega), if_pos (by omega), Nat.xor_zero, Nat.xor_assoc]
  · rw [if_pos (by omega), if_pos (by omega), if_neg (by omega), Nat.xor_zero, Nat.xor_assoc, Nat.xor_assoc, Nat.xor_comm (b / 2)]
  · rw [if_neg (by omega), if_pos (by omega), if_pos (by omega), Nat.xor_zero]
    rw [Nat.xor_assoc, ← Nat.xor_assoc 2197175160, Nat.xor_comm 2197175160, Nat.xor_assoc (b / 2), Nat.xor_self, Nat.xor_zero]
theorem s1_even (q : Nat) : s1 (2 * q) = q := by
  unfold s1
  rw [if_neg (by omega), Nat.xor_zero]; omega
theorem s1_lt (r : Nat) (h : r < 4294967296) : s1 r < 4294967296 := by
  unfold s1
  refine Nat.xor_lt_two_pow (n := 32) (by omega) ?_
  split <;> omega
def s4 (r : Nat) : Nat := s1 (s1 (s1 (s1 r)))
theorem s4_xor (a b : Nat) : s4 (a ^^^ b) = s4 a ^^^ s4 b := by unfold s4; rw [s1_xor, s1_xor, s1_xor, s1_xor]
theorem s4_lt (r : Nat) (h : r < 4294967296) : s4 r < 4294967296 := s1_lt _ (s1_lt _ (s1_lt _ (s1_lt _ h)))
theorem split16 (q m : Nat) (h : m < 16) : (16 * q) ^^^ m = 16 * q + m := by
  have e : 16 * q = 2 ^ 4 * q := rfl
  rw [e]
  refine Nat.eq_of_testBit_eq fun i => ?_
  rw [Nat.testBit_xor, Nat.testBit_two_pow_mul_add q (b := m) (i := 4) h, Nat.testBit_two_pow_mul]
  by_cases hi : i < 4
  · rw [if_pos hi, decide_eq_false (by omega)]; simp
  · rw [if_neg hi, decide_eq_true (by omega), Nat.testBit_lt_two_pow (Nat.lt_of_lt_of_le h (show 2 ^ 4 ≤ 2 ^ i from Nat.pow_le_pow_right (by decide) (by omega)))]; simp
/-- half a byte, by the table -/
theorem s4_nib (r : Nat) : r / 16 ^^^ s4 (r % 16) = s4 r := by
  have e : r = (16 * (r / 16)) ^^^ (r % 16) := by rw [split16 _ _ (by omega)]; omega
  have h : s4 (16 * (r / 16)) = r / 16 := by
    unfold s4
    rw [show 16 * (r / 16) = 2 * (2 * (2 * (2 * (r / 16)))) by omega, s1_even, s1_even, s1_even, s1_even]
  conv => rhs; rw [e, s4_xor, h]
def tab : List Int := [0, 274646895, 549293790, 820201905, 1098587580, 1361435347, 1640403810, 1905808397, 2197175160, 2460548119, 2722870694, 2987750089, 3280807620, 3553878443, 3811616794, 4084100981]
theorem tab_is : ∀ i : Fin 16, tab.getD i.val 0 = ((s4 i.val : Nat) : Int) := by decide +kernel
/-- a byte -/
def s8 (r c : Nat) : Nat := s4 (s4 (r ^^^ c))
def run (r : Nat) (L : List Nat) : Nat := L.foldl s8 r
theorem s8_lt (r c : Nat) (h : r < 4294967296) (hc : c < 256) : s8 r c < 4294967296 := s4_lt _ (s4_lt _ (Nat.xor_lt_two_pow (n := 32) h (by omega)))
theorem run_lt : ∀ (L : List Nat) (r : Nat), r < 4294967296 → (∀ b ∈ L, b < 256) → run r L < 4294967296
  | [], _, h, _ => h
  | c :: t, r, h, hB => run_lt t (s8 r c) (s8_lt r c h (hB c (List.mem_cons_self ..))) fun b hb => hB b (List.mem_cons_of_mem _ hb)
theorem run_append (r : Nat) (a b : List Nat) : run r (a ++ b) = run (run r a) b := List.foldl_append

/-- the document's bit -/
def rb (r b : Nat) : Nat := if (r + b) % 2 = 1 then r / 2 ^^^ 2197175160 else r / 2
theorem rb_is (r b : Nat) : s1 (r ^^^ b) = rb r b ^^^ b / 2 := by
  unfold s1 rb
  have h1 : (r ^^^ b) / 2 = r / 2 ^^^ b / 2 := Nat.xor_div_two
  have h2 : (r ^^^ b) % 2 = (r + b) % 2 := xor_par r b
  rw [h1, h2]
  by_cases h : (r + b) % 2 = 1
  · rw [if_pos h, if_pos h, Nat.xor_assoc, Nat.xor_assoc, Nat.xor_comm 2197175160]
  · rw [if_neg h, if_neg h, Nat.xor_zero]
/-- k bits of a byte, the lowest first -/
def rk (r c : Nat) : Nat → Nat
  | 0 => r
  | k + 1 => rb (rk r c k) (c / 2 ^ k)
def s1k (r : Nat) : Nat → Nat
  | 0 => r
  | k + 1 => s1 (s1k r k)
theorem rk_is (r c : Nat) : ∀ k, s1k (r ^^^ c) k = rk r c k ^^^ c / 2 ^ k
  | 0 => by show r ^^^ c = r ^^^ c / 2 ^ 0; rw [Nat.pow_zero, Nat.div_one]
  | k + 1 => by
    show s1 (s1k (r ^^^ c) k) = rb (rk r c k) (c / 2 ^ k) ^^^ c / 2 ^ (k + 1)
    rw [rk_is r c k, rb_is, Nat.pow_succ, Nat.div_div_eq_div_mul]
theorem rk_byte (r c : Nat) (hc : c < 256) : rk r c 8 = s8 r c := by
  have := rk_is r c 8
  rw [show c / 2 ^ 8 = 0 by omega, Nat.xor_zero] at this
  rw [← this]; rfl
theorem rb_lt (r b : Nat) (h : r < 4294967296) : rb r b < 4294967296 := by
  unfold rb
  split
  · exact Nat.xor_lt_two_pow (n := 32) (by omega) (by omega)
  · omega
theorem rk_lt (r c : Nat) (h : r < 4294967296) : ∀ k, rk r c k < 4294967296
  | 0 => h
  | k + 1 => rb_lt _ _ (rk_lt r c h k)
/-- the sum of bytes -/
def crcOf (L : List Nat) : Nat := 4294967295 - run 4294967295 L

open Go.ChangeShapes Go.WideShapes Go.ChangeAt Go.RowKit

theorem ret_int {k : IntKind} {a b : Int} (h : a = b) : Ending.returned (.int k a) = .returned (.int k b) := by rw [h]
theorem ret_val {k : IntKind} {a b : Int} (h : a = b) : Value.int k a = Value.int k b := by rw [h]
/-- the table's cells -/
def Tab (w : World) : Prop := ∀ i, i < 16 → w.cell? ⟨0, i, none⟩ = some (.int .u32 ((s4 i : Nat) : Int))
theorem tab_later {w W : World} (h : Tab w) (hb : Below w.heap.size w W) : Tab W := fun i hi => by
  rw [hb.cell (World.block_lt_of_cell? w _ (h i hi))]; exact h i hi
/-- bytes to be read: whatever slice -/
def Src (w : World) (sp : Option Addr) (L : List Nat) : Prop := 0 < L.length → ∃ g o, sp = some ⟨g, o, none⟩ ∧ ∀ i, i < L.length → w.cell? ⟨g, o + i, none⟩ = some (.int .u8 ((L.getD i 0 : Nat) : Int))
theorem src_later {w W : World} {sp : Option Addr} {L : List Nat} (h : Src w sp L) (hb : Below w.heap.size w W) : Src W sp L := fun hp => by
  obtain ⟨g, o, e, hc⟩ := h hp
  exact ⟨g, o, e, fun i hi => by rw [hb.cell (World.block_lt_of_cell? w _ (hc i hi))]; exact hc i hi⟩
theorem getD_byte {L : List Nat} (hB : ∀ b ∈ L, b < 256) (k : Nat) : L.getD k 0 < 256 := by
  by_cases h : k < L.length
  · have e : L.getD k 0 = L[k] := by simp [List.getD, h]
    rw [e]; exact hB _ (List.getElem_mem h)
  · have e : L.getD k 0 = 0 := by simp [List.getD, h]
    omega
theorem take_succ_get (L : List Nat) (k : Nat) (h : k < L.length) : L.take (k + 1) = L.take k ++ [L.getD k 0] := by
  rw [List.take_add_one]; simp [List.getD, h]
theorem not_u32 (x : Nat) (h : x < 4294967296) : bits .xor .u32 IntKind.u32.max (x : Int) = ((4294967295 - x : Nat) : Int) := by
  have e2 : bits .xor .u32 IntKind.u32.max (x : Int) = ((4294967295 ^^^ x : Nat) : Int) := u32_xor_nat 4294967295 x (by decide) (by omega)
  have e3 : 4294967295 ^^^ x = 4294967295 - x := by
    have e := BitVec.toNat_not (x := BitVec.ofNat 32 x)
    have e4 : ~~~ (BitVec.ofNat 32 x) = BitVec.allOnes 32 ^^^ BitVec.ofNat 32 x := BitVec.not_def
    rw [e4, BitVec.toNat_xor, BitVec.toNat_allOnes, BitVec.toNat_ofNat, Nat.mod_eq_of_lt (show x < 2 ^ 32 from h)] at e
    exact e
  rw [e2, e3]
theorem and15 (x : Nat) (h : x < 4294967296) : bits .and .u32 (x : Int) 15 = ((x % 16 : Nat) : Int) := by
  have e : bits .and .u32 (x : Int) ((15 : Nat) : Int) = _ := u32_and_nat x 15 (by omega) (by decide)
  rw [Nat.and_two_pow_sub_one_eq_mod x 4] at e
  exact e
set_option maxRecDepth 20000 in
set_option maxHeartbeats 1000000 in
theorem more_any (s : Nat) (hs : s < 4294967296) (sp : Option Addr) (cap : Nat) (L : List Nat) (hn : L.length ≤ 1000000) (hB : ∀ b ∈ L, b < 256) (w : World) (ht : Hid (Tab w)) (hc : Hid (Src w sp L)) :
    Calls Tryd.prog 77 #[.int .u32 (s : Int), .slice sp L.length cap] w fun e w' => e = .returned (.int .u32 ((4294967295 - run (4294967295 - s) L : Nat) : Int)) ∧ w = w' := by
  obtain ⟨n, hL⟩ : ∃ n, L.length = n := ⟨_, rfl⟩
  have HL : Hid (True → L.length = n) := Lib.hid fun _ => hL
  rw [hL] at hn ⊢
  clear hL
  obtain ⟨r0, hr0, hr0l⟩ : ∃ r0, 4294967295 - s = r0 ∧ r0 < 4294967296 := ⟨_, rfl, by omega⟩
  have e0 : bits .xor .u32 IntKind.u32.max (s : Int) = (r0 : Int) := by rw [not_u32 s hs, hr0]
  rw [hr0]
  clear hr0 hs
  have HR : Hid (True → r0 < 4294967296) := Lib.hid fun _ => hr0l
  clear hr0l
  go_enter Tryd.func77, Tryd.ntmps77
  go_wp2_with fail
  clear e0
  go_loop [5, 12] (fun r i => ∃ x k : Nat, r = .int .u32 (x : Int) ∧ i = .int .i64 (k : Int) ∧ k ≤ n ∧ Hid (True → x = run r0 (L.take k))) (fun _ i => n - (intOf i).toNat)
  case atStart => exact ⟨r0, 0, rfl, rfl, by omega, Lib.hid fun _ => rfl⟩
  case round =>
    obtain ⟨x, k, rfl, rfl, hkn, hx⟩ := hrel
    by_cases hk : k < n
    · have hkL : Hid (True → k < L.length) := Lib.hid fun _ => by rw [HL.out trivial]; exact hk
      have hxl : Hid (True → x < 4294967296) := Lib.hid fun _ => by rw [hx.out trivial]; exact run_lt _ _ (HR.out trivial) fun b hb => hB b (List.mem_of_mem_take hb)
      obtain ⟨g, o, rfl, hcc⟩ := hc.out (by have := hkL.out trivial; omega)
      obtain ⟨c, hgc⟩ : ∃ c, L.getD k 0 = c := ⟨_, rfl⟩
      have hcell := hcc k (hkL.out trivial)
      rw [hgc] at hcell
      have hc256 : c < 256 := by rw [← hgc]; exact getD_byte hB k
      have hxl' := hxl.out trivial
      have hy : x ^^^ c < 4294967296 := Nat.xor_lt_two_pow (n := 32) hxl' (by omega)
      have f1 : bits .xor .u32 (x : Int) (c : Int) = ((x ^^^ c : Nat) : Int) := u32_xor_nat x c hxl' (by omega)
      obtain ⟨y, hyy⟩ : ∃ y, x ^^^ c = y := ⟨_, rfl⟩
      rw [hyy] at f1 hy
      obtain ⟨i1, hi1⟩ : ∃ i, y % 16 = i := ⟨_, rfl⟩
      have hi1l : i1 < 16 := by omega
      have f2 : bits .and .u32 (y : Int) 15 = (i1 : Int) := by rw [and15 y hy, hi1]
      obtain ⟨t1, ht1⟩ : ∃ t, s4 i1 = t := ⟨_, rfl⟩
      have g1 := ht.out i1 hi1l
      rw [ht1] at g1
      obtain ⟨z, hz⟩ : ∃ z, s4 y = z := ⟨_, rfl⟩
      have hzl : z < 4294967296 := by rw [← hz]; exact s4_lt y hy
      have ht1l : t1 < 4294967296 := by rw [← ht1]; exact s4_lt i1 (by omega)
      have f3 : bits .xor .u32 ((y : Int) / 16) (t1 : Int) = (z : Int) := by
        rw [show (y : Int) / 16 = ((y / 16 : Nat) : Int) by omega, u32_xor_nat (y / 16) t1 (by omega) ht1l, ← ht1, ← hi1, s4_nib, hz]
      obtain ⟨i2, hi2⟩ : ∃ i, z % 16 = i := ⟨_, rfl⟩
      have hi2l : i2 < 16 := by omega
      have f4 : bits .and .u32 (z : Int) 15 = (i2 : Int) := by rw [and15 z hzl, hi2]
      obtain ⟨t2, ht2⟩ : ∃ t, s4 i2 = t := ⟨_, rfl⟩
      have g2 := ht.out i2 hi2l
      rw [ht2] at g2
      have ht2l : t2 < 4294967296 := by rw [← ht2]; exact s4_lt i2 (by omega)
      obtain ⟨v, hv⟩ : ∃ v, s4 z = v := ⟨_, rfl⟩
      have f5 : bits .xor .u32 ((z : Int) / 16) (t2 : Int) = (v : Int) := by
        rw [show (z : Int) / 16 = ((z / 16 : Nat) : Int) by omega, u32_xor_nat (z / 16) t2 (by omega) ht2l, ← ht2, ← hi2, s4_nib, hv]
      have HV : Hid (True → v = run r0 (L.take (k + 1))) := Lib.hid fun _ => by
        rw [take_succ_get L k (hkL.out trivial), run_append, ← hx.out trivial, hgc]
        show v = s4 (s4 (x ^^^ c))
        rw [hyy, hz, hv]
      clear hgc hcc hyy hi1 ht1 hz hi2 ht2 hv hkL hx hxl
      go_wp2_with fail
      go_round
      case rel => exact ⟨v, k + 1, rfl, by go_num, by omega, HV⟩
      case measure => simp [intOf]; omega
    · have hkn2 : k = n := by omega
      have HX : Hid (True → bits .xor .u32 IntKind.u32.max (x : Int) = ((4294967295 - run r0 L : Nat) : Int)) := Lib.hid fun _ => by
        have e := hx.out trivial
        rw [List.take_of_length_le (by rw [HL.out trivial]; omega)] at e
        rw [e, not_u32 _ (run_lt _ _ (HR.out trivial) hB)]
      clear hkn2 hx
      go_wp2_with fail
      go_ret
      exact ⟨ret_int (HX.out trivial), rfl⟩

theorem crcOf_nil : crcOf [] = 0 := rfl
theorem crcOf_le (L : List Nat) : crcOf L < 4294967296 := by unfold crcOf; omega
theorem crcOf_more (A B : List Nat) (hA : ∀ b ∈ A, b < 256) : 4294967295 - run (4294967295 - crcOf A) B = crcOf (A ++ B) := by
  have h := run_lt A 4294967295 (by decide) hA
  unfold crcOf
  rw [run_append]
  congr 2
  omega
/-- a part: where it lies, its room, its bytes -/
abbrev Part := Option Addr × Nat × List Nat
def Fits (ps : List Part) : Prop := ∀ p ∈ ps, p.2.2.length ≤ 1000000 ∧ ∀ b ∈ p.2.2, b < 256
def Parts (w : World) (g o : Nat) (ps : List Part) : Prop := ∀ (i : Nat) p, ps[i]? = some p → w.cell? ⟨g, o + i, none⟩ = some (.slice p.1 p.2.2.length p.2.1) ∧ Src w p.1 p.2.2
def all (ps : List Part) : List Nat := ps.flatMap fun p => p.2.2
theorem all_snoc (ps : List Part) (k : Nat) (p : Part) (h : ps[k]? = some p) : all (ps.take (k + 1)) = all (ps.take k) ++ p.2.2 := by
  unfold all
  rw [List.take_add_one, h]
  simp
theorem all_byte {ps : List Part} (h : Fits ps) (k : Nat) : ∀ b ∈ all (ps.take k), b < 256 := by
  intro b hb
  obtain ⟨p, hp, hbp⟩ := List.mem_flatMap.1 hb
  exact (h p (List.mem_of_mem_take hp)).2 b hbp
theorem more_at (s : Nat) (A L : List Nat) (hs : s = crcOf A) (hA : ∀ b ∈ A, b < 256) (sp : Option Addr) (cap : Nat) (hn : L.length ≤ 1000000) (hB : ∀ b ∈ L, b < 256) (w : World) (ht : Hid (Tab w)) (hc : Hid (Src w sp L)) :
    Calls Tryd.prog 77 #[.int .u32 (s : Int), .slice sp L.length cap] w fun e w' => e = .returned (.int .u32 ((crcOf (A ++ L) : Nat) : Int)) ∧ w = w' := by
  subst hs
  rw [← crcOf_more A L hA]
  exact more_any _ (crcOf_le A) sp cap L hn hB w ht hc
set_option maxRecDepth 20000 in
theorem sum_any (g o cap : Nat) (ps : List Part) (hn : ps.length ≤ 10) (hB : Fits ps) (w : World) (ht : Hid (Tab w)) (hc : Hid (Parts w g o ps)) :
    Calls Tryd.prog 57 #[.slice (some ⟨g, o, none⟩) ps.length cap] w fun e w' => e = .returned (.int .u32 ((crcOf (all ps) : Nat) : Int)) ∧ w = w' := by
  obtain ⟨n, hL⟩ : ∃ n, ps.length = n := ⟨_, rfl⟩
  have HL : Hid (True → ps.length = n) := Lib.hid fun _ => hL
  rw [hL] at hn ⊢
  clear hL
  go_enter Tryd.func57, Tryd.ntmps57
  go_wp2_with fail
  go_loop [3, 8] (fun r i => ∃ x k : Nat, r = .int .u32 (x : Int) ∧ i = .int .i64 (k : Int) ∧ k ≤ n ∧ Hid (True → x = crcOf (all (ps.take k)))) (fun _ i => n - (intOf i).toNat)
  case atStart => exact ⟨0, 0, rfl, rfl, by omega, Lib.hid fun _ => by rw [List.take_zero]; exact crcOf_nil.symm⟩
  case round =>
    obtain ⟨x, k, rfl, rfl, hkn, hx⟩ := hrel
    by_cases hk : k < n
    · obtain ⟨p, hp⟩ : ∃ p, ps[k]? = some p := ⟨_, List.getElem?_eq_getElem (by rw [HL.out trivial]; exact hk)⟩
      obtain ⟨hcell, hsrc'⟩ := hc.out k p hp
      have hsrc := Lib.hid hsrc'
      have hf := hB p (List.mem_of_getElem? hp)
      have HM := Lib.hid (fun W (hT : Hid (Tab W)) hS => more_at x (all (ps.take k)) p.2.2 (hx.out trivial) (all_byte hB k) p.1 p.2.1 hf.1 hf.2 W hT hS)
      rw [← all_snoc ps k p hp] at HM
      obtain ⟨v, hv⟩ : ∃ v, crcOf (all (ps.take (k + 1))) = v := ⟨_, rfl⟩
      have HV : Hid (True → v = crcOf (all (ps.take (k + 1)))) := Lib.hid fun _ => hv.symm
      rw [hv] at HM
      clear hv hsrc' hf hp hx
      go_wp2_with fail
      refine (HM.out _ ht hsrc).mono ?_
      rintro e w' ⟨rfl, rfl⟩
      go_wp2_with fail
      go_round
      case rel => exact ⟨v, k + 1, rfl, by go_num, by omega, HV⟩
      case measure => simp [intOf]; omega
    · have HX : Hid (True → x = crcOf (all ps)) := Lib.hid fun _ => by
        have e := hx.out trivial
        rwa [List.take_of_length_le (by rw [HL.out trivial]; omega)] at e
      clear hx
      go_wp2_with fail
      go_ret
      exact ⟨ret_int (by rw [HX.out trivial]), rfl⟩

/-- the document's bit, as it is told -/
theorem bit_step (y c j : Nat) (i : Nat) (hi : (y + c / 2 ^ j) % 2 = i) : bits .xor .u32 ((y : Int) % 2) (((c : Int) / 2 ^ j).tmod 2 % 4294967296) = (i : Int) := by
  have e1 : (c : Int) / 2 ^ j = ((c / 2 ^ j : Nat) : Int) := by push_cast; rfl
  rw [e1]
  generalize c / 2 ^ j = b at *
  rw [Int.tmod_eq_emod_of_nonneg (by omega), show (y : Int) % 2 = ((y % 2 : Nat) : Int) by omega, show ((b : Nat) : Int) % 2 % 4294967296 = ((b % 2 : Nat) : Int) by omega, u32_xor_nat (y % 2) (b % 2) (by omega) (by omega)]
  rcases Nat.mod_two_eq_zero_or_one y with h1 | h1 <;> rcases Nat.mod_two_eq_zero_or_one b with h2 | h2 <;> rw [h1, h2]
  · obtain rfl : i = 0 := by omega
    rfl
  · obtain rfl : i = 1 := by omega
    rfl
  · obtain rfl : i = 1 := by omega
    rfl
  · obtain rfl : i = 0 := by omega
    rfl
set_option maxRecDepth 20000 in
theorem refSum_any (s : ByteArray) (hs : s.size ≤ 100000) (w : World) :
    Calls Tryd.prog 51 #[.string s] w fun e w' => e = .returned (.int .u32 ((crcOf (s.data.toList.map fun b => b.toNat) : Nat) : Int)) ∧ w = w' := by
  obtain ⟨L, hLs⟩ : ∃ L : List Nat, (s.data.toList.map fun b => b.toNat) = L := ⟨_, rfl⟩
  rw [hLs]
  have hlen : L.length = s.size := by rw [← hLs]; simp
  have hB : ∀ b ∈ L, b < 256 := by rw [← hLs]; intro b hb; obtain ⟨u, _, rfl⟩ := List.mem_map.1 hb; exact u.toNat_lt
  have HB := Lib.hid hB
  have HL := Lib.hid (fun _ : True => hlen)
  have HS := Lib.hid (fun _ : True => hLs)
  clear hLs hlen hB
  go_enter Tryd.func51, Tryd.ntmps51
  go_wp2_with fail
  go_loop [3, 4] (fun r i => ∃ x k : Nat, r = .int .u32 (x : Int) ∧ i = .int .i64 (k : Int) ∧ k ≤ s.size ∧ x < 4294967296 ∧ Hid (True → x = run 4294967295 (L.take k))) (fun _ i => s.size - (intOf i).toNat)
  case atStart => exact ⟨4294967295, 0, rfl, rfl, by omega, by omega, Lib.hid fun _ => rfl⟩
  case round =>
    obtain ⟨x, k, rfl, rfl, hkn, hxl, hx⟩ := hrel
    by_cases hk : k < s.size
    · obtain ⟨c, hgc⟩ : ∃ c, s[k].toNat = c := ⟨_, rfl⟩
      have hc256 : c < 256 := by rw [← hgc]; exact (s[k]).toNat_lt
      have HC : Hid (True → L.getD k 0 = c) := Lib.hid fun _ => by
        rw [← HS.out trivial, ← hgc]
        simp [List.getD, hk, ByteArray.getElem_eq_getElem_data]
      go_wp2_with fail
      go_loop [3, 5] (fun r i => ∃ y j : Nat, r = .int .u32 (y : Int) ∧ i = .int .i64 (j : Int) ∧ j ≤ 8 ∧ y < 4294967296 ∧ Hid (True → y = rk x c j)) (fun _ i => 8 - (intOf i).toNat)
      case atStart => exact ⟨x, 0, rfl, rfl, by omega, hxl, Lib.hid fun _ => rfl⟩
      case round =>
        obtain ⟨y, j, rfl, rfl, hj8, hyl, hy⟩ := hrel
        by_cases hj : j < 8
        · by_cases hb : (y + c / 2 ^ j) % 2 = 1
          · have f1 : bits .xor .u32 ((y : Int) % 2) (((c : Int) / 2 ^ j).tmod 2 % 4294967296) = 1 := bit_step y c j 1 hb
            obtain ⟨z, hz, hzl⟩ : ∃ z, rk x c (j + 1) = z ∧ z < 4294967296 := ⟨_, rfl, rk_lt x c hxl _⟩
            have f2 : bits .xor .u32 ((y : Int) / 2) 2197175160 = (z : Int) := by
              rw [← hz]
              show _ = ((rb (rk x c j) (c / 2 ^ j) : Nat) : Int)
              rw [← hy.out trivial]
              unfold rb
              rw [if_pos hb, show (y : Int) / 2 = ((y / 2 : Nat) : Int) by omega]
              exact u32_xor_nat (y / 2) 2197175160 (by omega) (by decide)
            have HZ : Hid (True → z = rk x c (j + 1)) := Lib.hid fun _ => hz.symm
            clear hz hb hy
            go_wp2_with fail
            go_round
            case rel => exact ⟨z, j + 1, rfl, by go_num, by omega, hzl, HZ⟩
            case measure => simp [intOf]; omega
          · have f1 : bits .xor .u32 ((y : Int) % 2) (((c : Int) / 2 ^ j).tmod 2 % 4294967296) = 0 := bit_step y c j 0 (by omega)
            have HZ : Hid (True → y / 2 = rk x c (j + 1)) := Lib.hid fun _ => by
              show _ = rb (rk x c j) (c / 2 ^ j)
              rw [← hy.out trivial]
              unfold rb
              rw [if_neg hb]
            clear hb hy
            go_wp2_with fail
            go_round
            case rel => exact ⟨y / 2, j + 1, by go_num, by go_num, by omega, by omega, HZ⟩
            case measure => simp [intOf]; omega
        · have HY : Hid (True → y = run 4294967295 (L.take (k + 1))) := Lib.hid fun _ => by
            have e := hy.out trivial
            rw [show j = 8 by omega, rk_byte x c hc256] at e
            rw [take_succ_get L k (by rw [HL.out trivial]; exact hk), run_append, ← hx.out trivial, HC.out trivial, e]
            rfl
          clear hy hgc
          go_wp2_with fail
          go_round
          case rel => exact ⟨y, k + 1, rfl, by go_num, by omega, hyl, HY⟩
          case measure => simp [intOf]; omega
    · have HX : Hid (True → bits .xor .u32 IntKind.u32.max (x : Int) = ((crcOf L : Nat) : Int)) := Lib.hid fun _ => by
        have e := hx.out trivial
        rw [List.take_of_length_le (by rw [HL.out trivial]; omega)] at e
        rw [not_u32 x hxl, e]; rfl
      clear hx
      go_wp2_with fail
      go_ret
      exact ⟨ret_int (HX.out trivial), rfl⟩

open Go.ChangeShapes Go.WideShapes Go.ChangeAt Go.RowKit Go.Joins

theorem crc_nine : crcOf [49, 50, 51, 52, 53, 54, 55, 56, 57] = 3808858755 := by decide +kernel
def c4 : Array Value := #[.int .u8 49, .int .u8 50, .int .u8 51, .int .u8 52]
def c5 : Array Value := #[.int .u8 53, .int .u8 54, .int .u8 55, .int .u8 56, .int .u8 57]
def nine (b : Nat) : List Part := [(some ⟨b, 0, none⟩, 4, [49, 50, 51, 52]), (none, 0, []), (some ⟨b + 1, 0, none⟩, 5, [53, 54, 55, 56, 57])]
theorem nine_fits (b : Nat) : Fits (nine b) := by
  intro p hp
  simp only [nine, List.mem_cons, List.not_mem_nil, or_false] at hp
  rcases hp with rfl | rfl | rfl <;> simp
def w3 (w : World) : World := ((w.alloc (.cells c4 5 (4, 5))).alloc (.cells c5 5 (5, 6))).alloc (.cells #[.slice (some ⟨w.heap.size, 0, none⟩) 4 4, .slice none 0 0, .slice (some ⟨w.heap.size + 1, 0, none⟩) 5 5] 34)
theorem w3_below (w : World) : Below w.heap.size w (w3 w) :=
  (((Below.refl _ w).alloc (Nat.le_refl _) _).alloc (by simp) _).alloc (by simp; omega) _
theorem heap_alloc (w : World) (o : Obj) : (w.alloc o).heap = w.heap.push o := rfl
theorem w3_c (w : World) : (w3 w).heap[w.heap.size]? = some (.cells c4 5 (4, 5)) ∧ (w3 w).heap[w.heap.size + 1]? = some (.cells c5 5 (5, 6)) ∧ (w3 w).heap[w.heap.size + 2]? = some (.cells #[.slice (some ⟨w.heap.size, 0, none⟩) 4 4, .slice none 0 0, .slice (some ⟨w.heap.size + 1, 0, none⟩) 5 5] 34) := by
  simp only [w3, heap_alloc, Array.getElem?_push, Array.size_push]
  refine ⟨?_, ?_, ?_⟩
  · rw [if_neg (by omega), if_neg (by omega), if_pos trivial]
  · rw [if_neg (by omega), if_pos trivial]
  · rw [if_pos trivial]
theorem nine_parts (w : World) : Parts (w3 w) (w.heap.size + 2) 0 (nine w.heap.size) := by
  obtain ⟨h1, h2, h3⟩ := w3_c w
  intro i p hp
  match i, hp with
  | 0, hp =>
    simp [nine] at hp; subst hp
    refine ⟨by simp [World.cell?, h3], fun _ => ⟨_, _, rfl, fun j hj => ?_⟩⟩
    match j, hj with
    | 0, _ => simp [World.cell?, h1, c4]
    | 1, _ => simp [World.cell?, h1, c4]
    | 2, _ => simp [World.cell?, h1, c4]
    | 3, _ => simp [World.cell?, h1, c4]
    | n + 4, h => exact absurd h (by simp)
  | 1, hp =>
    simp [nine] at hp; subst hp
    exact ⟨by simp [World.cell?, h3], fun h => absurd h (by simp)⟩
  | 2, hp =>
    simp [nine] at hp; subst hp
    refine ⟨by simp [World.cell?, h3], fun _ => ⟨_, _, rfl, fun j hj => ?_⟩⟩
    match j, hj with
    | 0, _ => simp [World.cell?, h2, c5]
    | 1, _ => simp [World.cell?, h2, c5]
    | 2, _ => simp [World.cell?, h2, c5]
    | 3, _ => simp [World.cell?, h2, c5]
    | 4, _ => simp [World.cell?, h2, c5]
    | n + 5, h => exact absurd h (by simp)
  | n + 3, hp => simp [nine] at hp
theorem sum_nine (w : World) (ht : Hid (Tab w)) : Calls Tryd.prog 57 #[.slice (some ⟨w.heap.size + 1 + 1, 0, none⟩) 3 3] (w3 w) fun e w' => e = .returned (.int .u32 3808858755) ∧ w3 w = w' := by
  have h := sum_any (w.heap.size + 2) 0 3 (nine w.heap.size) (show 3 ≤ 10 by decide) (nine_fits _) (w3 w) (Lib.hid (tab_later ht.out (w3_below w))) (Lib.hid (nine_parts w))
  have e : all (nine w.heap.size) = [49, 50, 51, 52, 53, 54, 55, 56, 57] := rfl
  rw [e, crc_nine] at h
  exact h
def Cut (m len : Nat) : Prop := m = len ∧ len ≤ 3000 ∨ m = 3000 ∧ 3000 < len
/-- one part, as the caller lays it -/
theorem sum_one (W : World) (g : Nat) (hg : g = W.heap.size) (ht : Hid (Tab W)) (sp : Option Addr) (cap n : Nat) (L : List Nat) (hL : L.length = n) (hn : n ≤ 1000000) (hB : ∀ b ∈ L, b < 256) (hS : Hid (Src W sp L)) :
    Calls Tryd.prog 57 #[.slice (some ⟨g, 0, none⟩) 1 1] (W.alloc (.cells #[.slice sp n cap] 34)) fun e w' => e = .returned (.int .u32 ((crcOf L : Nat) : Int)) ∧ W.alloc (.cells #[.slice sp n cap] 34) = w' := by
  subst hg hL
  have hb : Below W.heap.size W (W.alloc (.cells #[.slice sp L.length cap] 34)) := (Below.refl _ W).alloc (Nat.le_refl _) _
  have h := sum_any W.heap.size 0 1 [(sp, cap, L)] (show 1 ≤ 10 by decide) (fun p hp => by simp at hp; subst hp; exact ⟨hn, hB⟩) _ (Lib.hid (tab_later ht.out hb)) (Lib.hid (fun i p hp => by
    match i, hp with
    | 0, hp =>
      simp at hp; subst hp
      exact ⟨by simp [World.cell?, heap_alloc], src_later hS.out hb⟩
    | n + 1, hp => simp at hp))
  have e : all [(sp, cap, L)] = L := by simp [all]
  rw [e] at h
  exact h
/-- two -/
theorem sum_two (W : World) (g : Nat) (hg : g = W.heap.size) (ht : Hid (Tab W)) (sp sq : Option Addr) (cap caq n q : Nat) (L M : List Nat) (hL : L.length = n) (hM : M.length = q) (hn : n ≤ 1000000) (hq : q ≤ 1000000) (hB : ∀ b ∈ L ++ M, b < 256) (hS : Hid (Src W sp L)) (hT : Hid (Src W sq M)) :
    Calls Tryd.prog 57 #[.slice (some ⟨g, 0, none⟩) 2 2] (W.alloc (.cells #[.slice sp n cap, .slice sq q caq] 34)) fun e w' => e = .returned (.int .u32 ((crcOf (L ++ M) : Nat) : Int)) ∧ W.alloc (.cells #[.slice sp n cap, .slice sq q caq] 34) = w' := by
  subst hg hL hM
  have hb : Below W.heap.size W (W.alloc (.cells #[.slice sp L.length cap, .slice sq M.length caq] 34)) := (Below.refl _ W).alloc (Nat.le_refl _) _
  have h := sum_any W.heap.size 0 2 [(sp, cap, L), (sq, caq, M)] (show 2 ≤ 10 by decide) (fun p hp => by
    simp at hp
    rcases hp with rfl | rfl
    · exact ⟨hn, fun b hb => hB b (List.mem_append_left _ hb)⟩
    · exact ⟨hq, fun b hb => hB b (List.mem_append_right _ hb)⟩) _ (Lib.hid (tab_later ht.out hb)) (Lib.hid (fun i p hp => by
    match i, hp with
    | 0, hp =>
      simp at hp; subst hp
      exact ⟨by simp [World.cell?, heap_alloc], src_later hS.out hb⟩
    | 1, hp =>
      simp at hp; subst hp
      exact ⟨by simp [World.cell?, heap_alloc], src_later hT.out hb⟩
    | n + 2, hp => simp at hp))
  have e : all [(sp, cap, L), (sq, caq, M)] = L ++ M := by simp [all]
  rw [e] at h
  exact h

def cells (l : List Nat) : List Value := l.map fun (b : Nat) => Value.int .u8 (b : Int)
theorem cells_len (L : List Nat) : (cells L).length = L.length := by simp [cells]
theorem cells_one (L : List Nat) : ∀ v ∈ cells L, v.oneCell' = true := by
  intro v hv
  obtain ⟨b, _, rfl⟩ := List.mem_map.1 hv
  rfl
theorem info8 : (Tryd.prog.info? 5).map (fun i => (i.zero, i.size, i.bytes)) = some (some (.int .u8 0), 1, 1) := by kernel_rfl
/-- a number's four bytes, the lowest first -/
def four (s : Nat) : List Nat := [s % 256, s / 256 % 256, s / 65536 % 256, s / 16777216 % 256]
theorem mk_bytes (n : Nat) (hn : n ≤ 1000000) (w : World) : (Instr.makeSlice 34 (.int .i64 (n : Int)) (.int .i64 (n : Int))).run Tryd.prog w = .ok (.slice (some ⟨w.heap.size, 0, none⟩) n n) (w.alloc (.cells (cells (List.replicate n 0)).toArray 5)) := by
  obtain ⟨i0, hi, hz0, hz1, hz2⟩ := info_parts info8
  have h := run_makeSlice (P := Tryd.prog) w 34 5 i0 (.int .u8 0) Tryd.underlying34 hi hz0 .i64 .i64 (n : Int) (n : Int) (by omega) (Int.le_refl _) (by rw [hz1]; simp; omega) (by rw [hz2]; omega) (by omega)
  rw [hz1] at h
  simp only [Int.toNat_natCast, Nat.mul_one] at h
  have e : madeCells (Value.int .u8 0).cells n = (cells (List.replicate n 0)).toArray := by
    apply Array.ext
    · rw [size_madeCells]; simp [cells]
    · intro i h1 h2
      simp [madeCells, cells, Value.cells, Nat.mod_one]
  rw [h, e]
theorem src_pos {w : World} {sp : Option Addr} {L : List Nat} (h : Src w sp L) : 0 < (cells L).length → ∃ ad, sp = some ad ∧ ∀ j v, (cells L)[j]? = some v → w.cell? (ad.add j) = some v := by
  intro hp
  rw [cells_len] at hp
  obtain ⟨g, o, rfl, hc⟩ := h hp
  refine ⟨_, rfl, fun j v hj => ?_⟩
  have hjl : j < L.length := by
    have := (List.getElem?_eq_some_iff.1 hj).1
    rwa [cells_len] at this
  have e : v = .int .u8 ((L.getD j 0 : Nat) : Int) := by
    simp [cells, hjl] at hj
    rw [← hj]; simp [List.getD, hjl]
  have e2 : (⟨g, o, none⟩ : Addr).add j = ⟨g, o + j, none⟩ := by unfold Addr.add; split <;> simp_all
  rw [e, e2]
  exact hc j hjl
theorem splice_front (L M : List Nat) : splice (cells M) 0 (cells L) = cells (L ++ M.drop L.length) := by
  unfold splice
  rw [List.take_zero, List.nil_append, Nat.zero_add, cells_len]
  simp [cells]
/-- the row while its last four bytes are laid -/
def row (L : List Nat) (s k : Nat) : List Value := cells (L ++ ((four s).take k ++ List.replicate (4 - k) 0))
theorem row_set (L : List Nat) (s k : Nat) (b : Nat) (hk : k < 4) (hb : (four s)[k]? = some b) (n : Nat) (hn : n = L.length + k) : (row L s k).toArray.setIfInBounds n (.int .u8 (b : Int)) = (row L s (k + 1)).toArray := by
  subst hn
  match k, hk, hb with
  | 0, _, hb => simp [four] at hb; subst hb; simp [row, cells, four, List.replicate]
  | 1, _, hb => simp [four] at hb; subst hb; simp [row, cells, four, List.replicate]
  | 2, _, hb => simp [four] at hb; subst hb; simp [row, cells, four, List.replicate]
  | 3, _, hb => simp [four] at hb; subst hb; simp [row, cells, four]
theorem row_len (L : List Nat) (s k : Nat) (hk : k ≤ 4) : (row L s k).length = L.length + 4 := by
  simp [row, cells, four]; omega
theorem row_cell {w : World} {g : Nat} {L : List Nat} {s k : Nat} (h : w.heap[g]? = some (.cells (row L s k).toArray 5 (0, 0))) (hk : k < 4) (n : Nat) (hn : n = L.length + k) : ∃ v, w.cell? ⟨g, n, none⟩ = some v := by
  have : n < (row L s k).length := by rw [row_len L s k (by omega)]; omega
  exact ⟨(row L s k)[n], by simp [World.cell?, h, this]⟩
set_option maxRecDepth 20000 in
set_option maxHeartbeats 2000000 in
theorem close_any (sp : Option Addr) (cap : Nat) (L : List Nat) (hn : L.length ≤ 4000) (hB : ∀ b ∈ L, b < 256) (w : World) (ht : Hid (Tab w)) (hS : Hid (Src w sp L)) :
    Calls Tryd.prog 58 #[.slice sp L.length cap] w fun e w' => ∃ g, e = .returned (.slice (some ⟨g, 0, none⟩) (L.length + 4) (L.length + 4)) ∧ w.heap.size ≤ g ∧ w'.heap[g]? = some (.cells (cells (L ++ four (crcOf L))).toArray 5 (0, 0)) ∧ Below w.heap.size w w' := by
  obtain ⟨S, hSe⟩ : ∃ S, crcOf L = S := ⟨_, rfl⟩
  have hSl : S < 4294967296 := by rw [← hSe]; exact crcOf_le L
  have HS := Lib.hid (sum_one w w.heap.size rfl ht sp cap L.length L rfl (by omega) hB hS)
  rw [hSe] at HS ⊢
  obtain ⟨n, hL⟩ : ∃ n, L.length = n := ⟨_, rfl⟩
  have HL : Hid (True → L.length = n) := Lib.hid fun _ => hL
  rw [hL] at HS hn ⊢
  clear hL hSe hB
  have hmk : (Instr.makeSlice 34 (.int .i64 ((n : Int) + 4)) (.int .i64 ((n : Int) + 4))).run Tryd.prog (w.alloc (.cells #[.slice sp n cap] 34)) = .ok (.slice (some ⟨w.heap.size + 1, 0, none⟩) (n + 4) (n + 4)) ((w.alloc (.cells #[.slice sp n cap] 34)).alloc (.cells (cells (List.replicate (n + 4) 0)).toArray 5)) := by
    have h := mk_bytes (n + 4) (by omega) (w.alloc (.cells #[.slice sp n cap] 34))
    rw [show (w.alloc (.cells #[.slice sp n cap] 34)).heap.size = w.heap.size + 1 by simp] at h
    exact h
  obtain ⟨Z, hZ⟩ : ∃ Z, cells (List.replicate (n + 4) 0) = Z := ⟨_, rfl⟩
  have HZ : Hid (True → cells (List.replicate (n + 4) 0) = Z) := Lib.hid fun _ => hZ
  rw [hZ] at hmk
  clear hZ
  have hsrc : Hid (Src ((w.alloc (.cells #[.slice sp n cap] 34)).alloc (.cells Z.toArray 5)) sp L) :=
    Lib.hid (src_later hS.out (((Below.refl _ w).alloc (Nat.le_refl _) _).alloc (by simp) _))
  have hrow : Hid (True → ((w.alloc (.cells #[.slice sp n cap] 34)).alloc (.cells Z.toArray 5)).heap[w.heap.size + 1]? = some (.cells Z.toArray 5 (0, 0))) := Lib.hid fun _ => by
    simp only [heap_alloc, Array.getElem?_push, Array.size_push]
    rw [if_pos trivial]
  have hcl : Hid (True → (cells L).length = n) := Lib.hid fun _ => by rw [cells_len]; exact HL.out trivial
  have hzl : Hid (True → Z.length = n + 4) := Lib.hid fun _ => by rw [← HZ.out trivial, cells_len, List.length_replicate]
  go_enter Tryd.func58, Tryd.ntmps58
  go_wp2_with fail
  refine HS.out.mono ?_
  rintro e w' ⟨rfl, rfl⟩
  go_wp2_with (refine wpList_copy_splice rfl (.tmp 13) (.tmp 14) 34 34 rfl 5 Tryd.underlying34 (by kernel_rfl) _ _ _ _ _ _ rfl rfl (w.heap.size + 1) 0 Z 5 (hrow.out trivial) (cells L) (by rw [hcl.out trivial]; exact (Nat.min_eq_left (by omega)).symm) (fun hp => ⟨rfl, src_pos hsrc.out hp⟩) (by rw [hcl.out trivial, hzl.out trivial]; omega) (cells_one L) w.heap.size w (((Below.refl _ w).alloc (Nat.le_refl _) _).alloc (by simp) _) (Nat.le_succ _) ?_; intro w2 HG2 hB2')
  have hg0 : w2.heap[w.heap.size + 1]? = some (.cells (row L S 0).toArray 5 (0, 0)) := by
    have h := HG2.out
    rw [← HZ.out trivial, splice_front, HL.out trivial] at h
    have e : (List.replicate (n + 4) 0).drop n = List.replicate 4 0 := by rw [List.drop_replicate]; congr 1; omega
    rw [e] at h
    exact h
  have HG0 := Lib.hid (fun _ : True => hg0)
  have HB2 := Lib.hid hB2'
  clear HG2 hg0 hB2' hrow hcl hzl hsrc hmk HZ HS
  go_wp2_with fail
  go_loopw [16] (fun i wr => ∃ k : Nat, i = .int .i64 (k : Int) ∧ k ≤ 4 ∧ Hid (True → wr.heap[w.heap.size + 1]? = some (.cells (row L S k).toArray 5 (0, 0))) ∧ Hid (Below w.heap.size w wr)) (fun i _ => 4 - (intOf i).toNat)
  case atStart => exact ⟨0, rfl, by omega, HG0, HB2⟩
  case round =>
    obtain ⟨k, rfl, hk4, hrow, hbel⟩ := hrel
    by_cases hk : k < 4
    · obtain ⟨v, hv⟩ := row_cell (hrow.out trivial) hk (n + k) (by rw [HL.out trivial])
      have hf := unfrozen_of_block (hrow.out trivial) (n + k)
      obtain ⟨b, hb⟩ : ∃ b, (four S)[k]? = some b := ⟨_, List.getElem?_eq_getElem (show k < 4 from hk)⟩
      have HV : Hid (True → (row L S k).toArray.setIfInBounds (n + k) (.int .u8 (b : Int)) = (row L S (k + 1)).toArray) := Lib.hid fun _ => row_set L S k b hk hb (n + k) (by rw [HL.out trivial])
      have HK : Hid (True → ∀ x : Int, x = 2 ^ (8 * k) → (S : Int) / x % 256 = (b : Int)) := Lib.hid fun _ x hx => by
        subst hx
        rcases (show k = 0 ∨ k = 1 ∨ k = 2 ∨ k = 3 by omega) with rfl | rfl | rfl | rfl <;> (simp [four] at hb; subst hb; omega)
      clear hb
      go_wp2_with fail
      go_round
      case rel =>
        rw [HK.out trivial _ rfl]
        refine ⟨k + 1, by go_num, by omega, Lib.hid fun _ => ?_, Lib.hid (hbel.out.setCell (p := ⟨w.heap.size + 1, n + k, none⟩) (Nat.le_succ _) _)⟩
        have h := block_setCell (i := n + k) (hrow.out trivial) (.int .u8 (b : Int))
        rw [HV.out trivial] at h
        exact h
      case measure => simp [intOf]; omega
    · obtain rfl : k = 4 := by omega
      have HE : Hid (True → row L S 4 = cells (L ++ four S)) := Lib.hid fun _ => by simp [row, four]
      go_wp2_with fail
      go_ret
      exact ⟨_, rfl, Nat.le_succ _, by rw [← HE.out trivial]; exact hrow.out trivial, hbel.out⟩

/-- the number of the first k of four bytes, the lowest first -/
def acc (D : List Nat) : Nat → Nat
  | 0 => 0
  | k + 1 => acc D k + D.getD k 0 * 2 ^ (8 * k)
theorem acc_lt (D : List Nat) (hB : ∀ b ∈ D, b < 256) : ∀ k, acc D k < 2 ^ (8 * k)
  | 0 => Nat.one_pos
  | k + 1 => by
    have h1 := acc_lt D hB k
    have h2 := getD_byte hB k
    show acc D k + D.getD k 0 * 2 ^ (8 * k) < _
    rw [show 8 * (k + 1) = 8 * k + 8 by omega, Nat.pow_add]
    have h3 : D.getD k 0 * 2 ^ (8 * k) ≤ 255 * 2 ^ (8 * k) := Nat.mul_le_mul_right _ (by omega)
    generalize 2 ^ (8 * k) = z at *
    omega
theorem or_low (x k d : Nat) (hx : x < 2 ^ (8 * k)) (hy : x + d * 2 ^ (8 * k) < 2 ^ 32) :
    bits .or .u32 (x : Int) ((d : Int) * 2 ^ (8 * k) % 4294967296) = ((x + d * 2 ^ (8 * k) : Nat) : Int) := by
  have e1 : ((d : Int) * 2 ^ (8 * k)) = ((d * 2 ^ (8 * k) : Nat) : Int) := by push_cast; rfl
  have e2 : ((d * 2 ^ (8 * k) : Nat) : Int) % 4294967296 = ((d * 2 ^ (8 * k) : Nat) : Int) := by
    generalize d * 2 ^ (8 * k) = z at *
    omega
  have e3 := u32_or_nat x (d * 2 ^ (8 * k)) (by omega) (by omega)
  rw [e1, e2, e3, Nat.or_comm, Nat.mul_comm d, ← Nat.two_pow_add_eq_or_of_lt hx, Nat.add_comm]
/-- is it the sum of what stands ahead of it? -/
def Opens (L : List Nat) : Prop := 4 ≤ L.length ∧ acc (L.drop (L.length - 4)) 4 = crcOf (L.take (L.length - 4))
/-- a text of these bytes -/
def sv (l : List Nat) : ByteArray := strOfNums (l.map fun (b : Nat) => (b : Int))
theorem sv_size (l : List Nat) : (sv l).size = l.length := by unfold sv; rw [strOfNums_size]; simp
theorem sv_append (a b : List Nat) : sv a ++ sv b = sv (a ++ b) := by
  apply ByteArray.ext
  apply Array.toList_inj.1
  simp [sv, strOfNums]
theorem sv_bytes (l : List Nat) (hB : ∀ b ∈ l, b < 256) : (sv l).data.toList.map (fun b => b.toNat) = l := by
  unfold sv
  rw [strOfNums_data, List.map_map, List.map_map]
  conv => rhs; rw [← List.map_id l]
  exact List.map_congr_left fun b hb => by simp; exact hB b hb
/-- a row of bytes, as a text, wherever it lies -/
theorem src_conv {w : World} {sp : Option Addr} {L : List Nat} (h : Src w sp L) (cap : Nat) (hp : 0 < L.length) : (convert 34 9 (.slice sp L.length cap)).run Tryd.prog w = .ok (.string (sv L)) w := by
  obtain ⟨g, o, rfl, hc⟩ := h hp
  exact run_convert_bytes_arg (P := Tryd.prog) w 34 5 Tryd.underlying34 Tryd.underlying5 g o L.length cap (L.map fun (b : Nat) => (b : Int)) (by simp) (fun i hi => by rw [hc i hi]; congr 2; simp [List.getD, hi]) 9 Tryd.underlying9
theorem refSum_sv (L : List Nat) (hn : L.length ≤ 100000) (hB : ∀ b ∈ L, b < 256) (w : World) :
    Calls Tryd.prog 51 #[.string (sv L)] w fun e w' => e = .returned (.int .u32 ((crcOf L : Nat) : Int)) ∧ w = w' := by
  have h := refSum_any (sv L) (by rw [sv_size]; exact hn) w
  rw [sv_bytes L hB] at h
  exact h
set_option maxRecDepth 20000 in
theorem four_any (S : Nat) (hS : S < 4294967296) (w : World) :
    Calls Tryd.prog 74 #[.int .u32 (S : Int)] w fun e w' => e = .returned (.string (sv (four S))) ∧ Below w.heap.size w w' := by
  have e0 : (S : Int) % 256 = ((S % 256 : Nat) : Int) := by omega
  have e1 : (S : Int) / 256 % 256 = ((S / 256 % 256 : Nat) : Int) := by omega
  have e2 : (S : Int) / 65536 % 256 = ((S / 65536 % 256 : Nat) : Int) := by omega
  have e3 : (S : Int) / 16777216 = ((S / 16777216 % 256 : Nat) : Int) := by omega
  have hq : (convert 34 9 (.slice (some ⟨w.heap.size, 0, none⟩) 4 4)).run Tryd.prog (w.alloc (.cells (cells (four S)).toArray 5)) = .ok (.string (sv (four S))) (w.alloc (.cells (cells (four S)).toArray 5)) := by
    refine src_conv (L := four S) (fun _ => ⟨_, _, rfl, fun i hi => ?_⟩) 4 (by simp [four])
    have hi4 : i < 4 := hi
    rw [Nat.zero_add, World.cell?_alloc_mark]
    match i, hi4 with
    | 0, _ => simp [cells, List.getD, four]
    | 1, _ => simp [cells, List.getD, four]
    | 2, _ => simp [cells, List.getD, four]
    | 3, _ => simp [cells, List.getD, four]
  have hq2 : (convert 34 9 (.slice (some ⟨w.heap.size, 0, none⟩) 4 4)).run Tryd.prog (w.alloc (.cells #[.int .u8 ((S : Int) % 256), .int .u8 ((S : Int) / 256 % 256), .int .u8 ((S : Int) / 65536 % 256), .int .u8 ((S : Int) / 16777216)] 5)) = .ok (.string (sv (four S))) (w.alloc (.cells (cells (four S)).toArray 5)) := by
    rw [e0, e1, e2, e3]; exact hq
  clear hq e0 e1 e2 e3
  go_enter Tryd.func74, Tryd.ntmps74
  go_wp2
  go_ret
  exact ⟨rfl, (Below.refl _ w).alloc (Nat.le_refl _) _⟩

theorem s1_zero (r : Nat) (h : r < 4294967296) (h0 : s1 r = 0) : r = 0 := by
  unfold s1 at h0
  by_cases ho : r % 2 = 1
  · rw [if_pos ho] at h0
    have e : r / 2 = 2197175160 := by
      have := congrArg (· ^^^ 2197175160) h0
      simp only [Nat.xor_assoc, Nat.xor_self, Nat.xor_zero, Nat.zero_xor] at this
      exact this
    omega
  · rw [if_neg ho, Nat.xor_zero] at h0
    omega
theorem s1k_add (r a : Nat) : ∀ b, s1k r (a + b) = s1k (s1k r a) b
  | 0 => rfl
  | b + 1 => by show s1 (s1k r (a + b)) = s1 _; rw [s1k_add r a b]
theorem s1k_xor (a b : Nat) : ∀ k, s1k (a ^^^ b) k = s1k a k ^^^ s1k b k
  | 0 => rfl
  | k + 1 => by show s1 (s1k (a ^^^ b) k) = s1 _ ^^^ s1 _; rw [s1k_xor a b k, s1_xor]
theorem s1k_even (q : Nat) : ∀ k, s1k (2 ^ k * q) k = q
  | 0 => by show 2 ^ 0 * q = q; rw [Nat.pow_zero, Nat.one_mul]
  | k + 1 => by
    rw [Nat.add_comm k 1, s1k_add]
    show s1k (s1 (2 ^ (1 + k) * q)) k = q
    rw [show 2 ^ (1 + k) * q = 2 * (2 ^ k * q) by rw [Nat.pow_add, Nat.pow_one, Nat.mul_assoc], s1_even, s1k_even q k]
theorem s1k_ne (r : Nat) (h : r < 4294967296) (h0 : r ≠ 0) : ∀ k, s1k r k < 4294967296 ∧ s1k r k ≠ 0
  | 0 => ⟨h, h0⟩
  | k + 1 => by
    obtain ⟨h1, h2⟩ := s1k_ne r h h0 k
    exact ⟨s1_lt _ h1, fun e => h2 (s1_zero _ h1 e)⟩
/-- bytes as one number, the first the lowest -/
def num : List Nat → Nat
  | [] => 0
  | b :: t => b + 256 * num t
theorem split256 (q m : Nat) (h : m < 256) : (256 * q) ^^^ m = 256 * q + m := by
  have e : 256 * q = 2 ^ 8 * q := rfl
  rw [e]
  refine Nat.eq_of_testBit_eq fun i => ?_
  rw [Nat.testBit_xor, Nat.testBit_two_pow_mul_add q (b := m) (i := 8) h, Nat.testBit_two_pow_mul]
  by_cases hi : i < 8
  · rw [if_pos hi, decide_eq_false (by omega)]; simp
  · rw [if_neg hi, decide_eq_true (by omega), Nat.testBit_lt_two_pow (Nat.lt_of_lt_of_le h (show 2 ^ 8 ≤ 2 ^ i from Nat.pow_le_pow_right (by decide) (by omega)))]; simp
theorem run_num : ∀ (L : List Nat) (r : Nat), (∀ b ∈ L, b < 256) → run r L = s1k (r ^^^ num L) (8 * L.length)
  | [], r, _ => by show r = r ^^^ 0; rw [Nat.xor_zero]
  | b :: t, r, hB => by
    have hb := hB b (List.mem_cons_self ..)
    show run (s8 r b) t = _
    rw [run_num t _ fun c hc => hB c (List.mem_cons_of_mem _ hc), List.length_cons, show 8 * (t.length + 1) = 8 + 8 * t.length by omega, s1k_add]
    congr 1
    show s8 r b ^^^ num t = s1k (r ^^^ (b + 256 * num t)) 8
    rw [Nat.add_comm b, ← split256 _ _ hb, Nat.xor_comm (256 * num t), ← Nat.xor_assoc, s1k_xor]
    congr 1
    exact (s1k_even (num t) 8).symm
/-- one with 32 bits at most, wherever they begin, is not lost -/
theorem run_burst (L : List Nat) (hB : ∀ b ∈ L, b < 256) (k B : Nat) (hn : num L = 2 ^ k * B) (hk : k ≤ 8 * L.length) (hb : B < 4294967296) (h0 : B ≠ 0) : run 0 L ≠ 0 := by
  rw [run_num L 0 hB, Nat.zero_xor, hn]
  obtain ⟨j, hj⟩ : ∃ j, 8 * L.length = k + j := ⟨8 * L.length - k, by omega⟩
  rw [hj, s1k_add, s1k_even]
  exact (s1k_ne B hb h0 j).2
/-- sums of two rows of one length, put together: the register of the rows put together -/
theorem run_xor : ∀ (L M : List Nat) (r s : Nat), L.length = M.length → run r L ^^^ run s M = run (r ^^^ s) (List.zipWith (· ^^^ ·) L M)
  | [], [], _, _, _ => rfl
  | b :: L, c :: M, r, s, h => by
    show run (s8 r b) L ^^^ run (s8 s c) M = run (s8 (r ^^^ s) (b ^^^ c)) _
    rw [run_xor L M _ _ (by simpa using h)]
    congr 1
    unfold s8
    rw [← s4_xor, ← s4_xor]
    congr 2
    rw [Nat.xor_assoc, Nat.xor_assoc, ← Nat.xor_assoc b, Nat.xor_comm b, Nat.xor_assoc s]
theorem acc_four (s : Nat) (h : s < 4294967296) : acc (four s) 4 = s := by
  show 0 + s % 256 * 2 ^ (8 * 0) + s / 256 % 256 * 2 ^ (8 * 1) + s / 65536 % 256 * 2 ^ (8 * 2) + s / 16777216 % 256 * 2 ^ (8 * 3) = s
  omega

/-- bytes that came in: nothing, or a row of cells -/
def Came (w : World) (a0 : Option Addr) (len0 cap0 : Nat) (z0 : List Int) : Prop :=
  (a0 = none ∧ len0 = 0 ∧ cap0 = 0 ∧ z0 = []) ∨ ∃ x, a0 = some x ∧ len0 ≤ cap0 ∧ cap0 ≤ maxLen ∧ z0.length = cap0 ∧ (∀ i, i < z0.length → w.cell? (x.add i) = some (.int .u8 (z0.getD i 0))) ∧ ∀ n ∈ z0, (Lit.int .u8 n).wf = true
theorem bounds_byte {n : Int} (h : (Lit.int .u8 n).wf = true) : 0 ≤ n ∧ n ≤ 255 := by
  simp [Lit.wf, IntKind.min, IntKind.max, IntKind.signed, IntKind.bits] at h
  omega
theorem came_le {w : World} {a0 : Option Addr} {len0 cap0 : Nat} {z0 : List Int} (h : Came w a0 len0 cap0 z0) : len0 ≤ cap0 ∧ cap0 ≤ 9223372036854775807 := by
  rcases h with ⟨_, h1, h2, _⟩ | ⟨_, _, h1, h2, _⟩
  · omega
  · unfold maxLen at h2; omega
theorem came_addr {w : World} {a0 : Option Addr} {len0 cap0 : Nat} {z0 : List Int} (h : Came w a0 len0 cap0 z0) : (a0 = none ∧ len0 = 0 ∧ cap0 = 0) ∨ ∃ x, a0 = some x := by
  rcases h with ⟨h0, h1, h2, _⟩ | ⟨x, h, _⟩
  · exact .inl ⟨h0, h1, h2⟩
  · exact .inr ⟨x, h⟩
theorem came_src {w : World} {a0 : Option Addr} {len0 cap0 : Nat} {z0 : List Int} (w0 : Came w a0 len0 cap0 z0) (m : Nat) (hm : m ≤ len0) : ∃ L : List Nat, L.length = m ∧ (∀ b ∈ L, b < 256) ∧ Src w a0 L := by
  rcases w0 with ⟨rfl, rfl, rfl, rfl⟩ | ⟨x, rfl, h1, h2, h3, h4, h5⟩
  · exact ⟨[], by simp; omega, by simp, fun h => absurd h (by simp)⟩
  · have hb : ∀ z ∈ z0, 0 ≤ z ∧ z ≤ 255 := fun z hz => bounds_byte (h5 z hz)
    refine ⟨(z0.take m).map Int.toNat, by simp; omega, ?_, fun hp => ?_⟩
    · intro b hb'
      obtain ⟨z, hz, rfl⟩ := List.mem_map.1 hb'
      have := hb z (List.mem_of_mem_take hz)
      omega
    · have hm0 : 0 < m := by simp at hp; omega
      obtain ⟨g, o, s⟩ := x
      have hs : s = none := by
        have h0 := h4 0 (by omega)
        cases s with
        | none => rfl
        | some s =>
          simp [World.cell?, Addr.add] at h0
          split at h0 <;> cases h0
      subst hs
      refine ⟨g, o, rfl, fun i hi => ?_⟩
      have hi2 : i < m := by simp at hi; omega
      have hi3 : i < z0.length := by omega
      have e : (⟨g, o, none⟩ : Addr).add i = ⟨g, o + i, none⟩ := by unfold Addr.add; split <;> simp_all
      rw [← e, h4 i hi3]
      have hz := hb z0[i] (List.getElem_mem hi3)
      have e1 : z0.getD i 0 = z0[i] := by simp [List.getD, hi3]
      have e2 : ((z0.take m).map Int.toNat).getD i 0 = z0[i].toNat := by simp [List.getD, hi3, hi2]
      rw [e1, e2]
      congr 2; omega
set_option maxRecDepth 20000 in
/-- a row as a text, nothing too -/
theorem src_conv0 {w : World} {a0 : Option Addr} {L : List Nat} (h : Src w a0 L) (cap : Nat) (ha : a0 = none → L.length = 0) : (convert 34 9 (.slice a0 L.length cap)).run Tryd.prog w = .ok (.string (sv L)) w := by
  by_cases hp : 0 < L.length
  · exact src_conv h cap hp
  · obtain rfl : L = [] := List.length_eq_zero_iff.1 (by omega)
    have e : sv [] = ⟨#[]⟩ := rfl
    rw [e]
    cases a0 <;> (simp only [List.length_nil]; go_simp <;> rfl)
theorem src_take {w : World} {sp : Option Addr} {L : List Nat} (h : Src w sp L) (k : Nat) : Src w sp (L.take k) := fun hp => by
  simp only [List.length_take] at hp
  obtain ⟨g, o, e, hc⟩ := h (by omega)
  refine ⟨g, o, e, fun i hi => ?_⟩
  simp only [List.length_take] at hi
  rw [hc i (by omega)]
  congr 2
  simp [List.getD, show i < k by omega]
theorem src_drop {w : World} {g o : Nat} {L : List Nat} (h : Src w (some ⟨g, o, none⟩) L) (k : Nat) : Src w (some ⟨g, o + k, none⟩) (L.drop k) := fun hp => by
  simp only [List.length_drop] at hp
  obtain ⟨g', o', e, hc⟩ := h (by omega)
  cases e
  refine ⟨g, o + k, rfl, fun i hi => ?_⟩
  simp only [List.length_drop] at hi
  rw [Nat.add_assoc, hc (k + i) (by omega)]
  congr 2
  simp [List.getD, List.getElem?_drop]

theorem gTab : Tryd.prog.globalNamed "scriptor/crc.halves" = some 0 := by kernel_rfl
theorem tTab : (Tryd.prog.globals[0]?).map (·.type) = some 134 := by kernel_rfl
theorem cTab : Tryd.prog.cellsOf 134 = 16 := by kernel_rfl
theorem cU32 : Tryd.prog.cellsOf 88 = 1 := by kernel_rfl
/-- the row's condition gives the table's cells -/
theorem tab_of_laid {W : World} (h : laidMetH Tryd.prog [("scriptor/crc.halves", Rows.laid_scriptor_crc_halves)] W) : Tab W := by
  rw [MakeChecks.laidMetH_plain _ _ _ (by kernel_rfl)] at h
  have ht : Lib.TabIs Tryd.prog W "scriptor/crc.halves" .u32 tab := Lib.tabIs_of_head gTab tTab Tryd.underlying134 Tryd.underlying88 cU32 cTab h
  intro i hi
  have hc := World.var?_cell gTab ht i
  have e := tab_is ⟨i, hi⟩
  have hl : i < tab.length := hi
  rw [← e]
  rw [hc]
  simp [List.getD, hl]

theorem xor_mul (k a b : Nat) : 2 ^ k * a ^^^ 2 ^ k * b = 2 ^ k * (a ^^^ b) := by
  refine Nat.eq_of_testBit_eq fun i => ?_
  rw [Nat.testBit_xor, Nat.testBit_two_pow_mul, Nat.testBit_two_pow_mul, Nat.testBit_two_pow_mul, Nat.testBit_xor]
  cases decide (i ≥ k) <;> simp
theorem split2 (n q m : Nat) (h : m < 2 ^ n) : (2 ^ n * q) ^^^ m = 2 ^ n * q + m := by
  refine Nat.eq_of_testBit_eq fun i => ?_
  rw [Nat.testBit_xor, Nat.testBit_two_pow_mul_add q (b := m) (i := n) h, Nat.testBit_two_pow_mul]
  by_cases hi : i < n
  · rw [if_pos hi, decide_eq_false (by omega)]; simp
  · rw [if_neg hi, decide_eq_true (by omega), Nat.testBit_lt_two_pow (Nat.lt_of_lt_of_le h (Nat.pow_le_pow_right (by decide) (by omega)))]; simp
theorem num_cons (b : Nat) (t : List Nat) (hb : b < 256) : num (b :: t) = (2 ^ 8 * num t) ^^^ b := by
  rw [split2 8 (num t) b hb]; show b + 256 * num t = 256 * num t + b; omega
theorem xor_byte (a b : Nat) (ha : a < 256) (hb : b < 256) : a ^^^ b < 256 := Nat.xor_lt_two_pow (n := 8) ha hb
/-- one byte turned -/
theorem num_set : ∀ (L : List Nat) (j v : Nat), j < L.length → (∀ b ∈ L, b < 256) → v < 256 → num (L.set j (L.getD j 0 ^^^ v)) = num L ^^^ (2 ^ (8 * j) * v)
  | [], _, _, h, _, _ => by simp at h
  | b :: t, 0, v, _, hB, hv => by
    have hb := hB b (List.mem_cons_self ..)
    show num ((b ^^^ v) :: t) = _
    rw [num_cons _ _ (xor_byte b v hb hv), num_cons b t hb, Nat.mul_zero, Nat.pow_zero, Nat.one_mul, Nat.xor_assoc]
  | b :: t, j + 1, v, h, hB, hv => by
    have hb := hB b (List.mem_cons_self ..)
    have ih := num_set t j v (by simpa using h) (fun c hc => hB c (List.mem_cons_of_mem _ hc)) hv
    show num (b :: t.set j (t.getD j 0 ^^^ v)) = _
    rw [num_cons b _ hb, num_cons b t hb, ih, ← xor_mul, Nat.xor_assoc, Nat.xor_assoc, Nat.xor_comm b]
    rw [show 8 * (j + 1) = 8 + 8 * j by omega, Nat.pow_add, Nat.mul_assoc]
theorem set_byte {L : List Nat} (hB : ∀ b ∈ L, b < 256) (j x : Nat) (hx : x < 256) : ∀ b ∈ L.set j x, b < 256 := fun b hb => by
  rcases List.mem_or_eq_of_mem_set hb with h | h
  · exact hB b h
  · omega
/-- a piece more of a number, the lowest first -/
theorem piece (B s d : Nat) : 2 ^ s * (B / 2 ^ s % 2 ^ d) ^^^ (B % 2 ^ s) = B % 2 ^ (s + d) := by
  rw [split2 s _ _ (Nat.mod_lt _ (Nat.two_pow_pos s)), Nat.pow_add, Nat.mod_mul, Nat.add_comm]
theorem s1k_zero : ∀ k, s1k 0 k = 0
  | 0 => rfl
  | k + 1 => by show s1 (s1k 0 k) = 0; rw [s1k_zero k]; rfl
theorem xor_eq_zero {a b : Nat} (h : a ^^^ b = 0) : a = b := by
  have := congrArg (· ^^^ b) h
  simpa [Nat.xor_assoc] using this
theorem s1k_eq (a b : Nat) (ha : a < 4294967296) (hb : b < 4294967296) (n : Nat) (h : s1k a n = s1k b n) : a = b := by
  refine xor_eq_zero ?_
  by_cases h0 : a ^^^ b = 0
  · exact h0
  · exfalso
    refine (s1k_ne (a ^^^ b) (Nat.xor_lt_two_pow (n := 32) ha hb) h0 n).2 ?_
    rw [s1k_xor, h, Nat.xor_self]
/-- rows that differ by 32 bits at most have one register just if they are one -/
theorem run_iff (L M : List Nat) (hl : M.length = L.length) (hL : ∀ b ∈ L, b < 256) (hM : ∀ b ∈ M, b < 256) (k B : Nat) (hn : num M = num L ^^^ 2 ^ k * B) (hk : k ≤ 8 * L.length) (hb : B < 4294967296) (r : Nat) : run r M = run r L ↔ B = 0 := by
  have e : run r M = run r L ^^^ s1k (2 ^ k * B) (8 * L.length) := by
    rw [run_num M r hM, run_num L r hL, hl, hn, ← Nat.xor_assoc, s1k_xor]
  obtain ⟨j, hj⟩ : ∃ j, 8 * L.length = k + j := ⟨8 * L.length - k, by omega⟩
  have e2 : s1k (2 ^ k * B) (8 * L.length) = s1k B j := by rw [hj, s1k_add, s1k_even]
  rw [e, e2]
  constructor
  · intro h
    by_cases h0 : B = 0
    · exact h0
    · exfalso
      refine (s1k_ne B hb h0 j).2 ?_
      have := congrArg (run r L ^^^ ·) h
      simpa [← Nat.xor_assoc] using this
  · rintro rfl
    rw [s1k_zero, Nat.xor_zero]
theorem crcOf_iff (L M : List Nat) (hl : M.length = L.length) (hL : ∀ b ∈ L, b < 256) (hM : ∀ b ∈ M, b < 256) (k B : Nat) (hn : num M = num L ^^^ 2 ^ k * B) (hk : k ≤ 8 * L.length) (hb : B < 4294967296) : crcOf M = crcOf L ↔ B = 0 := by
  rw [← run_iff L M hl hL hM k B hn hk hb 4294967295]
  have h1 := run_lt L 4294967295 (by decide) hL
  have h2 := run_lt M 4294967295 (by decide) hM
  unfold crcOf
  omega
theorem not_xor (r : Nat) (h : r < 4294967296) : 4294967295 - r = 4294967295 ^^^ r := by
  have e := BitVec.toNat_not (x := BitVec.ofNat 32 r)
  have e4 : ~~~ (BitVec.ofNat 32 r) = BitVec.allOnes 32 ^^^ BitVec.ofNat 32 r := BitVec.not_def
  rw [e4, BitVec.toNat_xor, BitVec.toNat_allOnes, BitVec.toNat_ofNat, Nat.mod_eq_of_lt (show r < 2 ^ 32 from h)] at e
  exact e.symm
theorem xor_swap {r x c : Nat} (h : r ^^^ x = c) : x = c ^^^ r := by
  rw [← h, Nat.xor_comm r, Nat.xor_assoc, Nat.xor_self, Nat.xor_zero]
theorem num_four (D : List Nat) (h : D.length = 4) : acc D 4 = num D := by
  match D, h with
  | [a, b, c, d], _ =>
    show 0 + a * 2 ^ (8 * 0) + b * 2 ^ (8 * 1) + c * 2 ^ (8 * 2) + d * 2 ^ (8 * 3) = a + 256 * (b + 256 * (c + 256 * (d + 256 * 0)))
    omega
/-- bytes that open: the register behind all of them is always the same -/
theorem opens_iff (C : List Nat) (hB : ∀ b ∈ C, b < 256) (h4 : 4 ≤ C.length) : Opens C ↔ run 4294967295 C = s1k 4294967295 32 := by
  obtain ⟨n, hn⟩ : ∃ n, C.length - 4 = n := ⟨_, rfl⟩
  have hsp : C = C.take n ++ C.drop n := (List.take_append_drop n C).symm
  have hD : (C.drop n).length = 4 := by rw [List.length_drop]; omega
  have hBM : ∀ b ∈ C.take n, b < 256 := fun b hb => hB b (List.mem_of_mem_take hb)
  have hBD : ∀ b ∈ C.drop n, b < 256 := fun b hb => hB b (List.mem_of_mem_drop hb)
  have hr := run_lt (C.take n) 4294967295 (by decide) hBM
  have ha : num (C.drop n) < 4294967296 := by
    rw [← num_four _ hD]
    exact acc_lt _ hBD 4
  have e1 : run 4294967295 C = s1k (run 4294967295 (C.take n) ^^^ num (C.drop n)) 32 := by
    conv => lhs; rw [hsp]
    rw [run_append, run_num _ _ hBD, hD]
  unfold Opens
  rw [hn, num_four _ hD, e1]
  unfold crcOf
  rw [not_xor _ hr]
  constructor
  · rintro ⟨_, h⟩
    rw [h, Nat.xor_comm 4294967295, ← Nat.xor_assoc, Nat.xor_self, Nat.zero_xor]
  · intro h
    refine ⟨h4, ?_⟩
    exact xor_swap (s1k_eq _ _ (Nat.xor_lt_two_pow (n := 32) hr ha) (by decide) 32 h)
theorem opens_closed (L : List Nat) : Opens (L ++ four (crcOf L)) := by
  have e4 : (four (crcOf L)).length = 4 := rfl
  unfold Opens
  rw [List.length_append, e4, Nat.add_sub_cancel, List.drop_left, List.take_left, acc_four _ (crcOf_le L)]
  exact ⟨by omega, rfl⟩
theorem four_byte (s : Nat) : ∀ b ∈ four s, b < 256 := by
  intro b hb
  simp [four] at hb
  omega

/-- what is read, in whatever later world -/
def Good (a0 a2 : Option Addr) (L : List Nat) (k : Nat) (W : World) : Prop := Tab W ∧ Src W a0 L ∧ Src W a0 (L.take k) ∧ Src W a2 (L.drop k)
theorem good_later {a0 a2 : Option Addr} {L : List Nat} {k : Nat} {w W : World} (h : Good a0 a2 L k w) (hb : Below w.heap.size w W) : Good a0 a2 L k W :=
  ⟨tab_later h.1 hb, src_later h.2.1 hb, src_later h.2.2.1 hb, src_later h.2.2.2 hb⟩
theorem good_alloc {a0 a2 : Option Addr} {L : List Nat} {k : Nat} {w : World} (h : Good a0 a2 L k w) (o : Obj) : Good a0 a2 L k (w.alloc o) := good_later h ((Below.refl _ w).alloc (Nat.le_refl _) o)
theorem cut_of (len0 : Nat) : ∃ m, Cut m len0 ∧ m ≤ len0 ∧ m ≤ 3000 := by
  rcases Nat.lt_or_ge 3000 len0 with h | h
  · exact ⟨3000, .inr ⟨rfl, h⟩, by omega, by omega⟩
  · exact ⟨len0, .inl ⟨rfl, h⟩, by omega, by omega⟩
theorem mod_cut (cut : Int) (m : Nat) (hm : m ≤ 100000) : ∃ k : Nat, wrap64 ((IntKind.u64.wrap cut).tmod ((m : Int) + 1)) = (k : Int) ∧ k ≤ m := by
  have h0 : 0 ≤ IntKind.u64.wrap cut := by rw [IntKind.wrap_u64]; omega
  refine ⟨((IntKind.u64.wrap cut).tmod ((m : Int) + 1)).toNat, ?_, ?_⟩
  · rw [Int.tmod_eq_emod_of_nonneg h0]
    unfold wrap64
    generalize IntKind.u64.wrap cut = x at *
    have h1 := Int.emod_nonneg x (show (m : Int) + 1 ≠ 0 by omega)
    have h2 := Int.emod_lt_of_pos x (show 0 < (m : Int) + 1 by omega)
    generalize x % ((m : Int) + 1) = y at *
    omega
  · rw [Int.tmod_eq_emod_of_nonneg h0]
    generalize IntKind.u64.wrap cut = x at *
    have h2 := Int.emod_lt_of_pos x (show 0 < (m : Int) + 1 by omega)
    generalize x % ((m : Int) + 1) = y at *
    omega
open Go.ChangeShapes Go.WideShapes Go.ChangeAt Go.RowKit Go.Joins
set_option linter.unusedVariables false

/-- block g is a row of bytes with room for 'cap', the first ones these -/
def Row (W : World) (g cap : Nat) (L : List Nat) : Prop := ∃ cur, W.heap[g]? = some (.cells cur 5 (0, 0)) ∧ cur.size = cap ∧ L.length ≤ cap ∧ cur.toList.take L.length = cells L
theorem row_byte {W : World} {g cap : Nat} {L : List Nat} (h : Row W g cap L) (i : Nat) (hi : i < L.length) : W.cell? ⟨g, i, none⟩ = some (.int .u8 ((L.getD i 0 : Nat) : Int)) := by
  obtain ⟨cur, hb, hs, hl, ht⟩ := h
  have h1 : (cur.toList.take L.length)[i]? = (cells L)[i]? := by rw [ht]
  rw [List.getElem?_take, if_pos hi] at h1
  rw [cell_of_block hb, ← Array.getElem?_toList, h1]
  simp [cells, List.getD, hi]
theorem row_free {W : World} {g cap : Nat} {L : List Nat} (h : Row W g cap L) (i : Nat) : W.frozen? ⟨g, i, none⟩ = false := by
  obtain ⟨cur, hb, _⟩ := h
  exact unfrozen_of_block hb i
theorem row_put {W : World} {g cap : Nat} {L : List Nat} (h : Row W g cap L) (i : Nat) (hi : i < L.length) (b : Nat) : Row (W.setCell ⟨g, i, none⟩ (.int .u8 (b : Int))) g cap (L.set i b) := by
  obtain ⟨cur, hb, hs, hl, ht⟩ := h
  refine ⟨_, block_setCell hb _, by simpa using hs, by simpa using hl, ?_⟩
  rw [List.length_set]
  have e : (cur.setIfInBounds i (Value.int .u8 (b : Int))).toList = cur.toList.set i (Value.int .u8 (b : Int)) := by simp
  rw [e, List.take_set, ht]
  unfold cells
  rw [List.map_set]
theorem row_lt {W : World} {g cap : Nat} {L : List Nat} (h : Row W g cap L) : g < W.heap.size := by
  obtain ⟨cur, hb, _⟩ := h
  rcases Nat.lt_or_ge g W.heap.size with hlt | hge
  · exact hlt
  · rw [Array.getElem?_eq_none hge] at hb; cases hb
theorem row_later {W W' : World} {g cap : Nat} {L : List Nat} (h : Row W g cap L) (hb : Below W.heap.size W W') : Row W' g cap L := by
  have hlt := row_lt h
  obtain ⟨cur, hc, hr⟩ := h
  exact ⟨cur, (hb.block g hlt).trans hc, hr⟩
theorem row_srcs {W : World} {g cap : Nat} {L : List Nat} (h : Row W g cap L) : Src W (some ⟨g, 0, none⟩) L := fun _ => ⟨g, 0, rfl, fun i hi => by rw [Nat.zero_add]; exact row_byte h i hi⟩
theorem row_of_owns {W : World} {base : Nat} {v : Value} {L : List Nat} (h : W.ownsRow base 5 1 v L.length (cells L)) (hp : 0 < L.length) : ∃ g cap, v = .slice (some ⟨g, 0, none⟩) L.length cap ∧ base ≤ g ∧ cap ≤ 9223372036854775807 ∧ L.length ≤ cap ∧ Row W g cap L := by
  rcases h.2 with ⟨_, h0⟩ | ⟨g, cap, cur, rfl, hb, hg, hn, hm, hs, ht⟩
  · omega
  · rw [Nat.mul_one] at hs ht
    unfold maxLen at hm
    exact ⟨g, cap, rfl, hb, by omega, hn, cur, hg, hs, by omega, ht⟩
theorem owns_nil {W : World} {base : Nat} {v : Value} (h : W.ownsRow base 5 1 v 0 []) : ∃ p cap, v = .slice p 0 cap := by
  rcases h.2 with ⟨rfl, _⟩ | ⟨g, cap, cur, rfl, _⟩
  · exact ⟨_, _, rfl⟩
  · exact ⟨_, _, rfl⟩
theorem owns_new (w : World) : (w.alloc (.cells #[] 5)).ownsRow w.heap.size 5 1 (.slice (some ⟨w.heap.size, 0, none⟩) 0 0) 0 [] := World.ownsRow_made w #[] 0 (Nat.le_refl _) (Nat.zero_le _) rfl
theorem chain2 {a b c : World} (h : Below a.heap.size a b) (k : Below b.heap.size b c) : Below a.heap.size a c := h.trans (k.mono h.size)

set_option linter.unusedVariables false

theorem bool_eq {a b : Bool} (h : a = b) : Ending.returned (.bool a) = .returned (.bool b) := by rw [h]
/-- what stands at the loop's head, i bytes turned -/
def Turned (L : List Nat) (k by' i g cap B : Nat) (w wr : World) : Prop := ∃ M : List Nat, M.length = L.length ∧ (∀ b ∈ M, b < 256) ∧ num M = num L ^^^ 2 ^ (8 * k) * (by' % 2 ^ (8 * i)) ∧ Row wr g cap M ∧ Below B w wr
theorem turn_one {L : List Nat} {k by' i g cap B : Nat} {w wr : World} (h : Turned L k by' i g cap B w wr) (hki : k + i < L.length) (hB : B ≤ g) :
    ∃ c : Nat, c < 256 ∧ wr.cell? ⟨g, k + i, none⟩ = some (.int .u8 (c : Int)) ∧ wr.frozen? ⟨g, k + i, none⟩ = false ∧
      Turned L k by' (i + 1) g cap B w (wr.setCell ⟨g, k + i, none⟩ (.int .u8 ((c ^^^ (by' / 2 ^ (8 * i) % 256) : Nat) : Int))) := by
  obtain ⟨M, h1, h2, h3, h4, h5⟩ := h
  have hkM : k + i < M.length := by omega
  have hx : by' / 2 ^ (8 * i) % 256 < 256 := Nat.mod_lt _ (by decide)
  refine ⟨M.getD (k + i) 0, getD_byte h2 _, row_byte h4 _ hkM, row_free h4 _, M.set (k + i) (M.getD (k + i) 0 ^^^ (by' / 2 ^ (8 * i) % 256)), by rw [List.length_set, h1], set_byte h2 _ _ (xor_byte _ _ (getD_byte h2 _) hx), ?_, row_put h4 _ hkM _, h5.setCell (p := ⟨g, k + i, none⟩) hB _⟩
  rw [num_set M (k + i) _ hkM h2 hx, h3, Nat.xor_assoc]
  congr 1
  rw [show 8 * (k + i) = 8 * k + 8 * i by omega, Nat.pow_add, Nat.mul_assoc, xor_mul, Nat.xor_comm]
  congr 1
  exact piece by' (8 * i) 8
theorem ch_step (by' i : Nat) : by' % 2 ^ (8 * (i + 1)) = 0 ↔ by' % 2 ^ (8 * i) = 0 ∧ by' / 2 ^ (8 * i) % 256 = 0 := by
  have h := piece by' (8 * i) 8
  rw [split2 _ _ _ (Nat.mod_lt _ (Nat.two_pow_pos _))] at h
  rw [show 8 * (i + 1) = 8 * i + 8 by omega, ← h]
  have hp := Nat.two_pow_pos (8 * i)
  generalize by' % 2 ^ (8 * i) = a
  show 2 ^ (8 * i) * (by' / 2 ^ (8 * i) % 2 ^ 8) + a = 0 ↔ a = 0 ∧ by' / 2 ^ (8 * i) % 2 ^ 8 = 0
  generalize by' / 2 ^ (8 * i) % 2 ^ 8 = c
  generalize 2 ^ (8 * i) = d at *
  constructor
  · intro h
    have h1 : d * c = 0 := by omega
    have h2 : a = 0 := by omega
    exact ⟨h2, (Nat.mul_eq_zero.1 h1).resolve_left (by omega)⟩
  · rintro ⟨rfl, rfl⟩
    rw [Nat.mul_zero]
theorem turned_end {L : List Nat} {k by' i g cap B : Nat} {w wr : World} (h : Turned L k by' i g cap B w wr) (hL : ∀ b ∈ L, b < 256) (hk : k ≤ L.length) (hi : i ≤ 4) (hby : by' < 4294967296) :
    ∃ M : List Nat, M.length = L.length ∧ (∀ b ∈ M, b < 256) ∧ Row wr g cap M ∧ Below B w wr ∧ (crcOf M = crcOf L ↔ by' % 2 ^ (8 * i) = 0) := by
  obtain ⟨M, h1, h2, h3, h4, h5⟩ := h
  exact ⟨M, h1, h2, h4, h5, crcOf_iff L M h1 hL h2 (8 * k) _ h3 (by omega) (Nat.lt_of_le_of_lt (Nat.mod_le _ _) hby)⟩
theorem mod_cut1 (cut : Int) (m : Nat) (hm0 : 0 < m) (hm : m ≤ 100000) : ∃ k : Nat, wrap64 ((IntKind.u64.wrap cut).tmod (m : Int)) = (k : Int) ∧ k < m := by
  obtain ⟨n, rfl⟩ : ∃ n, m = n + 1 := ⟨m - 1, by omega⟩
  obtain ⟨k, hk, hkm⟩ := mod_cut cut n (by omega)
  exact ⟨k, by rw [← hk]; rfl, by omega⟩
theorem bounds_u32 {n : Int} (h : (Lit.int .u32 n).wf = true) : ∃ s : Nat, n = (s : Int) ∧ s < 4294967296 := by
  simp [Lit.wf, IntKind.min, IntKind.max, IntKind.signed, IntKind.bits] at h
  exact ⟨n.toNat, by omega, by omega⟩
set_option linter.unusedVariables false

theorem close_m (sp : Option Addr) (cap m : Nat) (L : List Nat) (hL : L.length = m) (hn : m ≤ 4000) (hB : ∀ b ∈ L, b < 256) (w : World) (ht : Hid (Tab w)) (hS : Hid (Src w sp L)) :
    Calls Tryd.prog 58 #[.slice sp m cap] w fun e w' => ∃ g, e = .returned (.slice (some ⟨g, 0, none⟩) (m + 4) (m + 4)) ∧ Hid (w.heap.size ≤ g) ∧ Hid (Row w' g (m + 4) (L ++ four (crcOf L))) ∧ Hid (Below w.heap.size w w') := by
  subst hL
  refine (close_any sp cap L hn hB w ht hS).mono fun e w' ⟨g, h1, h2, h3, h4⟩ => ⟨g, h1, Lib.hid h2, Lib.hid ⟨_, h3, ?_, ?_, ?_⟩, Lib.hid h4⟩
  · simp [cells, four]
  · simp [four]
  · have e1 : (L ++ four (crcOf L)).length = L.length + 4 := by simp [four]
    rw [List.toList_toArray]
    exact List.take_of_length_le (by rw [cells_len]; omega)
/-- what stands at the loop's head, j bits looked at -/
def Flipped (C : List Nat) (k B j g cap H : Nat) (w wr : World) : Prop := ∃ M : List Nat, M.length = C.length ∧ (∀ b ∈ M, b < 256) ∧ num M = num C ^^^ 2 ^ k * (B % 2 ^ j) ∧ Row wr g cap M ∧ Below H w wr
theorem piece1 (B j : Nat) : 2 ^ j * (B / 2 ^ j % 2) ^^^ (B % 2 ^ j) = B % 2 ^ (j + 1) := piece B j 1
theorem flip_no {C : List Nat} {k B j g cap H : Nat} {w wr : World} (h : Flipped C k B j g cap H w wr) (hb : ¬ B / 2 ^ j % 2 = 1) : Flipped C k B (j + 1) g cap H w wr := by
  obtain ⟨M, h1, h2, h3, h4, h5⟩ := h
  refine ⟨M, h1, h2, ?_, h4, h5⟩
  rw [h3, ← piece1, show B / 2 ^ j % 2 = 0 by omega, Nat.mul_zero, Nat.zero_xor]
theorem flip_one {C : List Nat} {k B j g cap H : Nat} {w wr : World} (h : Flipped C k B j g cap H w wr) (hb : B / 2 ^ j % 2 = 1) (hkj : k + j < 8 * C.length) (hH : H ≤ g) :
    ∃ c : Nat, c < 256 ∧ wr.cell? ⟨g, (k + j) / 8, none⟩ = some (.int .u8 (c : Int)) ∧ wr.frozen? ⟨g, (k + j) / 8, none⟩ = false ∧
      Flipped C k B (j + 1) g cap H w (wr.setCell ⟨g, (k + j) / 8, none⟩ (.int .u8 ((c ^^^ 2 ^ ((k + j) % 8) : Nat) : Int))) := by
  obtain ⟨M, h1, h2, h3, h4, h5⟩ := h
  have hkM : (k + j) / 8 < M.length := by omega
  have hx : 2 ^ ((k + j) % 8) < 256 := Nat.lt_of_le_of_lt (Nat.pow_le_pow_right (by decide) (show (k + j) % 8 ≤ 7 by omega)) (by decide)
  refine ⟨M.getD ((k + j) / 8) 0, getD_byte h2 _, row_byte h4 _ hkM, row_free h4 _, M.set ((k + j) / 8) (M.getD ((k + j) / 8) 0 ^^^ 2 ^ ((k + j) % 8)), by rw [List.length_set, h1], set_byte h2 _ _ (xor_byte _ _ (getD_byte h2 _) hx), ?_, row_put h4 _ hkM _, h5.setCell (p := ⟨g, (k + j) / 8, none⟩) hH _⟩
  rw [num_set M _ _ hkM h2 hx, h3, Nat.xor_assoc, ← Nat.pow_add, show 8 * ((k + j) / 8) + (k + j) % 8 = k + j by omega]
  congr 1
  rw [← piece1, hb, Nat.mul_one, ← xor_mul, ← Nat.pow_add, Nat.xor_comm]
theorem bit_step2 (B j : Nat) : B % 2 ^ (j + 1) = 0 ↔ B % 2 ^ j = 0 ∧ ¬ B / 2 ^ j % 2 = 1 := by
  have h := piece1 B j
  rw [split2 _ _ _ (Nat.mod_lt _ (Nat.two_pow_pos _))] at h
  rw [← h]
  have hp := Nat.two_pow_pos j
  generalize B % 2 ^ j = a
  have hc : B / 2 ^ j % 2 < 2 := Nat.mod_lt _ (by decide)
  generalize B / 2 ^ j % 2 = c at *
  generalize 2 ^ j = d at *
  rcases (show c = 0 ∨ c = 1 by omega) with rfl | rfl <;> omega
theorem flipped_end {C : List Nat} {k B j g cap H : Nat} {w wr : World} (h : Flipped C k B j g cap H w wr) (hC : ∀ b ∈ C, b < 256) (hO : Opens C) (hk : k ≤ 8 * C.length) (hB : B < 4294967296) :
    ∃ M : List Nat, M.length = C.length ∧ (∀ b ∈ M, b < 256) ∧ Row wr g cap M ∧ Below H w wr ∧ (Opens M ↔ B % 2 ^ j = 0) := by
  obtain ⟨M, h1, h2, h3, h4, h5⟩ := h
  have h6 : 4 ≤ C.length := hO.1
  refine ⟨M, h1, h2, h4, h5, ?_⟩
  rw [opens_iff M h2 (by omega), ← (opens_iff C hC h6).1 hO]
  exact run_iff C M h1 hC h2 k _ h3 hk (Nat.lt_of_le_of_lt (Nat.mod_le _ _) hB) _
theorem flipped_drew {C : List Nat} {k B j g cap H : Nat} {w wr : World} (h : Flipped C k B j g cap H w wr) : Flipped C k B j g cap H w wr.drew := by
  obtain ⟨M, h1, h2, h3, h4, h5⟩ := h
  exact ⟨M, h1, h2, h3, h4, h5.drew⟩
theorem bit_mod (B j : Nat) : ((B : Int) / 2 ^ j).tmod 2 = ((B / 2 ^ j % 2 : Nat) : Int) := by
  have e : (B : Int) / 2 ^ j = ((B / 2 ^ j : Nat) : Int) := by push_cast; rfl
  rw [e]
  generalize B / 2 ^ j = x
  rw [Int.tmod_eq_emod_of_nonneg (by omega)]; omega
theorem flip_val (d n : Nat) (hd : d < 256) : ∀ x : Int, x = 2 ^ (n % 8) % 256 → bits .xor .u8 (d : Int) x = ((d ^^^ 2 ^ (n % 8) : Nat) : Int) := fun x hx => by
  have hl : 2 ^ (n % 8) < 256 := Nat.lt_of_le_of_lt (Nat.pow_le_pow_right (by decide) (show n % 8 ≤ 7 by omega)) (by decide)
  have e : x = ((2 ^ (n % 8) : Nat) : Int) := by
    have e2 : (2 : Int) ^ (n % 8) = ((2 ^ (n % 8) : Nat) : Int) := by push_cast; rfl
    rw [hx, e2]
    clear e2 hx
    generalize 2 ^ (n % 8) = y at *
    omega
  rw [e]
  exact u8_xor_nat _ _ hd hl
theorem mod_bits (cut : Int) (m : Nat) (hm : m ≤ 3000) : ∃ k : Nat, wrap64 ((IntKind.u64.wrap cut).tmod (8 * ((m : Int) + 4))) = (k : Int) ∧ k < 8 * (m + 4) := by
  obtain ⟨k, h1, h2⟩ := mod_cut1 cut (8 * (m + 4)) (by omega) (by omega)
  refine ⟨k, ?_, h2⟩
  rw [← h1]
  congr 2
set_option linter.unusedVariables false

theorem below_drewN {B : Nat} {a w : World} (h : Below B a w) (k : Nat) : Below B a (w.drewN k) := ⟨h.os, h.tape, h.output, h.size, h.block⟩
theorem four_acc (D : List Nat) (hB : ∀ b ∈ D, b < 256) (h : D.length = 4) : four (acc D 4) = D := by
  match D, h with
  | [a, b, c, d], _ =>
    have h1 := hB a (by simp)
    have h2 := hB b (by simp)
    have h3 := hB c (by simp)
    have h4 := hB d (by simp)
    have e : acc [a, b, c, d] 4 = a + 256 * b + 65536 * c + 16777216 * d := by
      show 0 + a * 2 ^ (8 * 0) + b * 2 ^ (8 * 1) + c * 2 ^ (8 * 2) + d * 2 ^ (8 * 3) = _
      omega
    rw [e]
    unfold four
    congr 1
    · omega
    congr 1
    · omega
    congr 1
    · omega
    congr 1
    omega
theorem sv_inj {a b : List Nat} (ha : ∀ x ∈ a, x < 256) (hb : ∀ x ∈ b, x < 256) (h : sv a = sv b) : a = b := by
  rw [← sv_bytes a ha, ← sv_bytes b hb, h]
theorem opens_sv (L : List Nat) (hB : ∀ b ∈ L, b < 256) (h4 : 4 ≤ L.length) : Opens L ↔ sv (four (crcOf (L.take (L.length - 4)))) = sv (L.drop (L.length - 4)) := by
  have hD : (L.drop (L.length - 4)).length = 4 := by rw [List.length_drop]; omega
  have hBD : ∀ b ∈ L.drop (L.length - 4), b < 256 := fun b hb => hB b (List.mem_of_mem_drop hb)
  unfold Opens
  constructor
  · rintro ⟨_, h⟩
    rw [← h, four_acc _ hBD hD]
  · intro h
    refine ⟨h4, ?_⟩
    rw [← sv_inj (four_byte _) hBD h, acc_four _ (crcOf_le _)]
theorem sv_take (L : List Nat) (n : Nat) : (sv L).extract 0 n = sv (L.take n) := by
  apply ByteArray.ext
  apply Array.toList_inj.1
  simp [sv, strOfNums]
theorem sv_drop (L : List Nat) (n : Nat) : (sv L).extract n (sv L).size = sv (L.drop n) := by
  apply ByteArray.ext
  apply Array.toList_inj.1
  simp [sv, strOfNums, ByteArray.size]
  exact List.take_of_length_le (by simp)
theorem str_ne {a b : ByteArray} (h : ¬ a = b) : (!a.toList == b.toList) = true := by
  simp only [Bool.not_eq_true', beq_eq_false_iff_ne]
  intro e
  rw [ByteArray.toList_eq, ByteArray.toList_eq] at e
  exact h (ByteArray.ext (Array.toList_inj.1 e))
/-- the document's Open of a row of bytes -/
def openT (L : List Nat) : List Nat := L.take (L.length - 4)
set_option linter.unusedVariables false

theorem mk_bytes0 (n : Nat) (hn : n ≤ 1000000) (w : World) : (Instr.makeSlice 34 (.int .i64 0) (.int .i64 (n : Int))).run Tryd.prog w = .ok (.slice (some ⟨w.heap.size, 0, none⟩) 0 n) (w.alloc (.cells (cells (List.replicate n 0)).toArray 5)) := by
  obtain ⟨i0, hi, hz0, hz1, hz2⟩ := info_parts info8
  have h := run_makeSlice (P := Tryd.prog) w 34 5 i0 (.int .u8 0) Tryd.underlying34 hi hz0 .i64 .i64 0 (n : Int) (by omega) (by omega) (by rw [hz1]; simp; omega) (by rw [hz2]; omega) (by omega)
  rw [hz1] at h
  simp only [Int.toNat_natCast, Nat.mul_one] at h
  have e : madeCells (Value.int .u8 0).cells n = (cells (List.replicate n 0)).toArray := by
    apply Array.ext
    · rw [size_madeCells]; simp [cells]
    · intro i h1 h2
      simp [madeCells, cells, Value.cells, Nat.mod_one]
  rw [e] at h
  exact h
/-- a builtin's call, its run known -/
theorem wpList_call_exact {P : Program} {w : World} {ops : Array Oper} {rest : List Oper} {o : Oper} {a : Act} {Q : Exit → Act → World → Prop} (hgd : o.guard = none) (s x : Operand) (t : TypeId)
    (ho : o.op = .call { callee := .builtin .append, args := #[s, x], argTypes := #[t, t] }) (v0 v1 v' : Value) (w' : World) (hs : a.eval s = v0) (hx : a.eval x = v1)
    (hrun : (Builtin.append_ #[t, t] o.type #[v0, v1]).run P w = .ok v' w') (h : wpList P ops Q rest (a.put o.dst v') w') : wpList P ops Q (o :: rest) a w := by
  refine wpList_plain hgd fun K hK => ?_
  unfold Oper.wp
  simp [execOp, ho, resolve, invoke, builtin, hs, hx, hrun, Result.andThen]
  exact hK _ _ h
/-- bytes put into a new row with room for nine more -/
theorem into_run (a0 : Option Addr) (m cap0 ty : Nat) (L : List Nat) (hL : L.length = m) (hm : m ≤ 3000) (w : World) (hS : Src w a0 L) (hA : (a0 = none ∧ cap0 = 0 ∧ m = 0) ∨ ∃ x, a0 = some x) :
    ∃ w2, (Builtin.append_ #[34, 34] ty #[.slice (some ⟨w.heap.size, 0, none⟩) 0 (m + 9), .slice a0 m cap0]).run Tryd.prog (w.alloc (.cells (cells (List.replicate (m + 9) 0)).toArray 5)) = .ok (.slice (some ⟨w.heap.size, 0, none⟩) m (m + 9)) w2 ∧
      Row w2 w.heap.size (m + 9) (L ++ List.replicate 9 0) ∧ Below w.heap.size w w2 := by
  obtain ⟨i0, hi, hz0, hz1, hz2⟩ := info_parts info8
  have hb1 := (Below.refl w.heap.size w).alloc (Nat.le_refl _) (.cells (cells (List.replicate (m + 9) 0)).toArray 5)
  rcases hA with ⟨rfl, rfl, rfl⟩ | ⟨x, rfl⟩
  · obtain rfl : L = [] := List.length_eq_zero_iff.1 hL
    refine ⟨_, run_append_owned_none (P := Tryd.prog) (w := w.alloc (.cells (cells (List.replicate (0 + 9) 0)).toArray 5)) w.heap.size 34 ty 5 i0 1 Tryd.underlying34 hi (.slice (some ⟨w.heap.size, 0, none⟩) 0 (0 + 9)) 0 [] (World.ownsRow_made w _ (0 + 9) (Nat.le_refl _) (by decide) (by simp [cells])), ⟨_, heap_alloc_new w _, by simp [cells], by simp, ?_⟩, hb1⟩
    simp [cells]
  · have hpos := src_pos (src_later hS hb1)
    have hr := run_append_room (P := Tryd.prog) (w.alloc (.cells (cells (List.replicate (m + 9) 0)).toArray 5)) 34 ty 5 i0 Tryd.underlying34 hi w.heap.size 0 (m + 9) _ (heap_alloc_new w _) x m cap0 (cells L) (by rw [cells_len, hL, hz1, Nat.mul_one]) (fun j u hu => by
      have hp : 0 < (cells L).length := by
        rcases Nat.eq_zero_or_pos (cells L).length with h | h
        · rw [List.length_eq_zero_iff.1 h] at hu; simp at hu
        · exact h
      obtain ⟨ad, e, h⟩ := hpos hp
      cases e
      exact h j u hu) (cells_one L) (by omega) (by rw [cells_len, hL]; simp [cells])
    rw [Nat.zero_add] at hr
    refine ⟨_, hr, ⟨_, setRow_heap _ _ _ _ _ _ (heap_alloc_new w _), ?_, by simp [hL], ?_⟩, below_setRow hb1 (Nat.le_refl _) _⟩
    · simp [cells, hL]
    · have e : (cells (L ++ List.replicate 9 0)) = cells L ++ cells (List.replicate 9 0) := by simp [cells]
      rw [e]
      refine (List.take_of_length_le ?_).trans ?_
      · simp [cells, hL]
      · simp [cells, hL, Nat.zero_mul]
end Go.Proofs.YtfhgdcljhncjmaaDoor.Fc
