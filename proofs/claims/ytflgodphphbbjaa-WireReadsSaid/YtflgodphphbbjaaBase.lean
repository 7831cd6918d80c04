/- Contracts of the writing side of wire: fold, Num, Str of the program; Num, Str of the document's own answers. No condition but that numbers are int's and texts are short. -/
import Derived.Test.YtflgodphphbbjaaRows
import Derived.WalkKit
import Derived.ProofKit
import Derived.OpenShut
import Derived.Handy
import Derived.WalkLawsBesides
import Derived.BigQuiet
import Derived.Deep.QuietTactic
import Derived.Lib.Hide
import Derived.LoopTactic
import Derived.Outline
import Derived.Lib.AppendStr
import Derived.Laws.BytesArg
import Derived.Laws.BitsAllLaws
import Derived.OwnWalk
namespace Go.Proofs.Ytflgodphphbbjaa
open Go.ChangeShapes Go.WideShapes Go.ChangeAt Go.RowKit

theorem ret_int {k : IntKind} {a b : Int} (h : a = b) : Ending.returned (.int k a) = .returned (.int k b) := by rw [h]
theorem ret_val {k : IntKind} {a b : Int} (h : a = b) : Value.int k a = Value.int k b := by rw [h]

/-- a number folded: without a sign, small on both sides of 0 -/
def zz (n : Int) : Nat := if n < 0 then (-2 * n - 1).toNat else (2 * n).toNat
theorem zz_lt (n : Int) (h1 : -9223372036854775808 ≤ n) (h2 : n ≤ 9223372036854775807) : zz n < 18446744073709551616 := by unfold zz; split <;> omega
/-- its bytes: seven bits each, the lowest first -/
def vb (x : Nat) : List Nat := if x < 128 then [x] else (x % 128 + 128) :: vb (x / 128)
theorem vb_lo {x : Nat} (h : x < 128) : vb x = [x] := by rw [vb, if_pos h]
theorem vb_hi {x : Nat} (h : ¬ x < 128) : vb x = (x % 128 + 128) :: vb (x / 128) := by rw [vb, if_neg h]
theorem vb_len : ∀ (k x : Nat), x < 128 ^ (k + 1) → (vb x).length ≤ k + 1
  | 0, x, h => by rw [vb_lo (by simpa using h)]; exact Nat.le_refl _
  | k + 1, x, h => by
    by_cases hx : x < 128
    · rw [vb_lo hx]; simp
    · rw [vb_hi hx, List.length_cons]
      have := vb_len k (x / 128) (by rw [Nat.div_lt_iff_lt_mul (by decide), ← Nat.pow_succ]; exact h)
      omega
theorem vb_ten (x : Nat) (h : x < 18446744073709551616) : (vb x).length ≤ 10 := vb_len 9 x (Nat.lt_of_lt_of_le h (by decide))
theorem vb_byte (x : Nat) : ∀ b ∈ vb x, b < 256 := by
  induction x using vb.induct with
  | case1 x h => intro b hb; rw [vb_lo h] at hb; simp at hb; omega
  | case2 x h ih =>
    intro b hb
    rw [vb_hi h] at hb
    rcases List.mem_cons.1 hb with e | e
    · omega
    · exact ih b e
theorem vb_pos (x : Nat) : 0 < (vb x).length := by
  by_cases h : x < 128
  · rw [vb_lo h]; simp
  · rw [vb_hi h]; simp
/-- bytes as cells -/
def cells (l : List Nat) : List Value := l.map fun (b : Nat) => Value.int .u8 (b : Int)
theorem cells_snoc (l : List Nat) (b : Nat) : cells l ++ [Value.int .u8 (b : Int)] = cells (l ++ [b]) := by simp [cells]

theorem nat_not64 (x : Nat) (h : x < 18446744073709551616) : 18446744073709551615 ^^^ x = 18446744073709551615 - x := by
  have e := BitVec.toNat_not (x := BitVec.ofNat 64 x)
  have e2 : ~~~ (BitVec.ofNat 64 x) = BitVec.allOnes 64 ^^^ BitVec.ofNat 64 x := BitVec.not_def
  rw [e2, BitVec.toNat_xor, BitVec.toNat_allOnes, BitVec.toNat_ofNat, Nat.mod_eq_of_lt (show x < 2 ^ 64 from h)] at e
  exact e
theorem not_u64 (y : Int) (h0 : 0 ≤ y) (h1 : y < 18446744073709551616) : bits .xor .u64 IntKind.u64.max y = 18446744073709551615 - y := by
  obtain ⟨x, rfl⟩ := Int.eq_ofNat_of_zero_le h0
  have e2 : bits .xor .u64 IntKind.u64.max (x : Int) = ((18446744073709551615 ^^^ x : Nat) : Int) := u64_xor_nat 18446744073709551615 x (by decide) (by omega)
  rw [e2, nat_not64 x (by omega)]
  omega
theorem zz_neg (n : Int) (h1 : -9223372036854775808 ≤ n) (h : n < 0) : bits .xor .u64 IntKind.u64.max (IntKind.u64.wrap (IntKind.u64.wrap n * 2)) = (zz n : Int) := by
  rw [not_u64 _ (by rw [IntKind.wrap_u64]; omega) (by rw [IntKind.wrap_u64]; omega), IntKind.wrap_u64, IntKind.wrap_u64]
  unfold zz
  rw [if_pos h]
  omega
theorem zz_pos (n : Int) (h : ¬ n < 0) : n * 2 = (zz n : Int) := by
  unfold zz
  rw [if_neg h]
  omega
theorem fold_any (n : Int) (h1 : -9223372036854775808 ≤ n) (h2 : n ≤ 9223372036854775807) (w : World) : Calls Try.prog 24 #[.int .i64 n] w fun e w' => e = .returned (.int .u64 (zz n : Int)) ∧ w = w' := by
  by_cases h : n < 0
  · have H := Lib.hid (fun _ : True => zz_neg n h1 h)
    go_enter Try.func24, Try.ntmps24
    go_wp2
    go_ret
    exact ⟨ret_int (H.out trivial), rfl⟩
  · have H := Lib.hid (fun _ : True => zz_pos n h)
    go_enter Try.func24, Try.ntmps24
    go_wp2
    go_ret
    exact ⟨ret_int (H.out trivial), rfl⟩
theorem info8 : (Try.prog.info? 5).map (fun i => (i.zero, i.size, i.bytes)) = some (some (.int .u8 0), 1, 1) := by kernel_rfl

/-- a row of bytes of the call's own -/
def Own (B : Nat) (v : Value) (l : List Nat) (w : World) : Prop := w.ownsRow B 5 1 v l.length (cells l)
theorem or128 (x : Nat) : bits .or .u8 (IntKind.u8.wrap (x : Int)) 128 = ((x % 128 + 128 : Nat) : Int) := by
  have e : IntKind.u8.wrap (x : Int) = ((x % 256 : Nat) : Int) := by rw [IntKind.wrap_u8']; omega
  have e2 : bits .or .u8 ((x % 256 : Nat) : Int) ((128 : Nat) : Int) = _ := u8_or_nat (x % 256) 128 (by omega) (by decide)
  have e3 : (x % 256) ||| 128 = x % 128 + 128 := by
    have h1 : x % 256 < 256 := by omega
    have key : ∀ y : Fin 256, (y.val ||| 128) = y.val % 128 + 128 := by decide +kernel
    have := key ⟨x % 256, h1⟩
    simp only at this
    rw [this]; omega
  rw [e]
  rw [e3] at e2
  exact e2
def zeros10 : Array Value := #[.int .u8 0, .int .u8 0, .int .u8 0, .int .u8 0, .int .u8 0, .int .u8 0, .int .u8 0, .int .u8 0, .int .u8 0, .int .u8 0]
def hiB (x : Nat) : Nat := x % 128 + 128
theorem one_byte (b : Int) : ∀ u ∈ [Value.int .u8 b], u.oneCell' = true := by
  intro u h
  rw [List.mem_singleton] at h
  subst h; rfl
theorem byte_small {x : Nat} (h : x < 128) : IntKind.u8.wrap (x : Int) = (x : Int) := IntWalk.u8_in _ ⟨by omega, by omega⟩
theorem cell_one (w : World) (v : Value) (t : TypeId) : ∀ j u, [v][j]? = some u → (w.alloc (.cells #[v] t)).cell? ((⟨w.heap.size, 0, none⟩ : Addr).add j) = some u := by
  intro j u h
  match j, h with
  | 0, h =>
    simp at h; subst h
    rw [show (⟨w.heap.size, 0, none⟩ : Addr).add 0 = ⟨w.heap.size, 0, none⟩ from rfl]
    rw [World.cell?_alloc_at _ _ _ _ rfl]; rfl

theorem own_snoc {B : Nat} {v : Value} {l : List Nat} {b : Nat} {w : World} (h : w.ownsRow B 5 1 v (l.length + 1) (cells l ++ [Value.int .u8 (b : Int)])) : Own B v (l ++ [b]) w := by
  unfold Own
  rw [List.length_append, ← cells_snoc]
  exact h
theorem own_ge {B e size n k : Nat} {v : Value} {xs : List Value} {w : World} (h : w.ownsRow B e size v n xs) (hk : v.ownBlock = some k) : B ≤ k := by
  rcases h.2 with ⟨rfl, _⟩ | ⟨g, cap, cur, rfl, hg, _⟩
  · cases hk
  · simp only [Value.ownBlock, Option.some.injEq] at hk
    omega
theorem below_app {B e size n : Nat} {v : Value} {xs : List Value} {w0 w w' : World} (hb : Below B w0 w) (hs : B ≤ w.heap.size) (o : Obj) (h : w.ownsRow B e size v n xs) (hg : (w.alloc o).grownBy w' v.ownBlock) : Below B w0 w' :=
  (hb.alloc hs o).grown hg (Nat.le_trans hs (by simp)) (fun _ hk => own_ge h hk)
set_option maxRecDepth 20000 in
set_option maxHeartbeats 1000000 in
theorem num_any (n : Int) (h1 : -9223372036854775808 ≤ n) (h2 : n ≤ 9223372036854775807) (w : World) :
    Calls Try.prog 9 #[.int .i64 n] w fun e w' => ∃ v, e = .returned v ∧ Own w.heap.size v (vb (zz n)) w' ∧ Below w.heap.size w w' := by
  have hmk : ∀ w, (Instr.makeSlice 23 (.int .i64 0) (.int .i64 10)).run Try.prog w = .ok (.slice (some ⟨w.heap.size, 0, none⟩) 0 10) (w.alloc (.cells zeros10 5)) := fun _ => by kernel_rfl
  obtain ⟨i0, hi, hz0, hz1, hz2⟩ := info_parts info8
  have hx := Lib.hid (zz_lt n h1 h2)
  have HL := Lib.hid (fun _ : True => vb_ten (zz n) hx.out)
  go_enter Try.func9, Try.ntmps9
  go_wp2_with (go_at_call 24; refine (fold_any _ h1 h2 _).mono ?_; rintro e w' ⟨rfl, rfl⟩)
  go_loopw [3, 4] (fun b u wr => ∃ (x : Nat) (bs : List Nat), u = .int .u64 (x : Int) ∧ Own w.heap.size b bs wr ∧ Below w.heap.size w wr ∧ Hid (True → bs ++ vb x = vb (zz n)) ∧ x < 18446744073709551616) (fun _ u _ => (intOf u).toNat)
  case atStart =>
    refine ⟨zz n, [], rfl, ⟨rfl, .inr ⟨w.heap.size, 10, zeros10, rfl, Nat.le_refl _, Array.getElem?_push_size, Nat.zero_le _, by decide, rfl, rfl⟩⟩, (Below.refl _ _).alloc (Nat.le_refl _) _, Lib.hid (fun _ => rfl), hx.out⟩
  case round =>
    obtain ⟨x, bs, rfl, hown, hbel, hv, hx64⟩ := hrel
    have hlen : bs.length + (vb x).length ≤ 10 := by
      have := congrArg List.length (hv.out trivial)
      rw [List.length_append] at this
      have := HL.out trivial
      omega
    have hp := vb_pos x
    have HX := Lib.hid hx64
    have hb9 : bs.length ≤ 9 := by omega
    clear hx64 hp hlen
    have hsz := hbel.size
    by_cases h : x < 128
    · have e1 := byte_small h
      have hv2 := hv.out trivial
      rw [vb_lo h] at hv2
      have HV := Lib.hid (fun _ : True => hv2)
      clear hv hv2
      have k3 : bs.length + 1 ≤ maxLen := by unfold maxLen; omega
      have k4 : (bs.length + 1) * 1 ≤ 140737488355328 := by omega
      have k5 : w.heap.size ≤ (wr.alloc (.cells #[.int .u8 (x : Int)] 5)).heap.size := Nat.le_trans hsz (by simp)
      have K3 := Lib.hid k3
      have K4 := Lib.hid k4
      have K5 := Lib.hid k5
      clear k3 k4 k5
      go_wp2_with (at_builtin; refine wpList_append_own _ rfl _ _ 23 rfl w.heap.size 5 i0 (.int .u8 0) 1 1 Try.underlying23 hi hz0 hz1 hz2 rfl (by decide) _ _ _ rfl (hown.alloc _) ⟨wr.heap.size, 0, none⟩ 1 1 [.int .u8 (x : Int)] rfl rfl (cell_one wr _ _) (one_byte _) K3.out K4.out K5.out ?_; intro v' w1 hown' hgrow _)
      go_ret
      exact ⟨v', rfl, by rw [← HV.out trivial]; exact own_snoc hown', below_app hbel hsz _ hown hgrow⟩
    · have e1 : bits .or .u8 ((x : Int) % 256) 128 = (hiB x : Int) := by have := or128 x; rw [IntKind.wrap_u8'] at this; exact this
      have hv2 := hv.out trivial
      rw [vb_hi h] at hv2
      have HV := Lib.hid (fun _ : True => hv2)
      clear hv hv2
      have k3 : bs.length + 1 ≤ maxLen := by unfold maxLen; omega
      have k4 : (bs.length + 1) * 1 ≤ 140737488355328 := by omega
      have k5 : w.heap.size ≤ (wr.alloc (.cells #[.int .u8 (hiB x : Int)] 5)).heap.size := Nat.le_trans hsz (by simp)
      have K3 := Lib.hid k3
      have K4 := Lib.hid k4
      have K5 := Lib.hid k5
      clear k3 k4 k5
      go_wp2_with (at_builtin; refine wpList_append_own _ rfl _ _ 23 rfl w.heap.size 5 i0 (.int .u8 0) 1 1 Try.underlying23 hi hz0 hz1 hz2 rfl (by decide) _ _ _ rfl (hown.alloc _) ⟨wr.heap.size, 0, none⟩ 1 1 [.int .u8 (hiB x : Int)] rfl rfl (cell_one wr _ _) (one_byte _) K3.out K4.out K5.out ?_; intro v' w1 hown' hgrow _)
      go_roundw
      case rel => exact ⟨x / 128, bs ++ [hiB x], rfl, own_snoc hown', below_app hbel hsz _ hown hgrow, Lib.hid (fun _ => by rw [← HV.out trivial]; simp [hiB]), by have := HX.out; omega⟩
      case measure => simp [intOf]; omega
end Go.Proofs.Ytflgodphphbbjaa
