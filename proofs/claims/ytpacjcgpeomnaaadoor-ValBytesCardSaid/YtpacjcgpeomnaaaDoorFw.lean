/- Contracts of one family of functions, put together: Fw. -/
import Derived.Test.YtpacjcgpeomnaaaDoorRows
import Derived.WalkKit
import Derived.ProofKit
import Derived.OpenShut
import Derived.Handy
import Derived.WalkLawsBesides
import Derived.BigQuiet
import Derived.Deep.QuietTactic
import Derived.Lib.Hide
import Derived.LoopTactic
import Derived.Outline
import Derived.Lib.AppendStr
import Derived.Laws.BytesArg
import Derived.Laws.BitsAllLaws
import Derived.OwnWalk
import Derived.Deep.RegionWith
import Derived.Laws.DeepNot64
import Derived.Laws.MakeOwn
import Derived.Laws.CopyOwn
namespace Go.Proofs.YtpacjcgpeomnaaaDoor.Fw
open Go.ChangeShapes Go.WideShapes Go.ChangeAt Go.RowKit

theorem ret_int {k : IntKind} {a b : Int} (h : a = b) : Ending.returned (.int k a) = .returned (.int k b) := by rw [h]
theorem ret_val {k : IntKind} {a b : Int} (h : a = b) : Value.int k a = Value.int k b := by rw [h]

/-- a number folded: without a sign, small on both sides of 0 -/
def zz (n : Int) : Nat := if n < 0 then (-2 * n - 1).toNat else (2 * n).toNat
theorem zz_lt (n : Int) (h1 : -9223372036854775808 ≤ n) (h2 : n ≤ 9223372036854775807) : zz n < 18446744073709551616 := by unfold zz; split <;> omega
/-- its bytes: seven bits each, the lowest first -/
def vb (x : Nat) : List Nat := if x < 128 then [x] else (x % 128 + 128) :: vb (x / 128)
theorem vb_lo {x : Nat} (h : x < 128) : vb x = [x] := by rw [vb, if_pos h]
theorem vb_hi {x : Nat} (h : ¬ x < 128) : vb x = (x % 128 + 128) :: vb (x / 128) := by rw [vb, if_neg h]
theorem vb_len : ∀ (k x : Nat), x < 128 ^ (k + 1) → (vb x).length ≤ k + 1
  | 0, x, h => by rw [vb_lo (by simpa using h)]; exact Nat.le_refl _
  | k + 1, x, h => by
    by_cases hx : x < 128
    · rw [vb_lo hx]; simp
    · rw [vb_hi hx, List.length_cons]
      have := vb_len k (x / 128) (by rw [Nat.div_lt_iff_lt_mul (by decide), ← Nat.pow_succ]; exact h)
      omega
theorem vb_ten (x : Nat) (h : x < 18446744073709551616) : (vb x).length ≤ 10 := vb_len 9 x (Nat.lt_of_lt_of_le h (by decide))
theorem vb_byte (x : Nat) : ∀ b ∈ vb x, b < 256 := by
  induction x using vb.induct with
  | case1 x h => intro b hb; rw [vb_lo h] at hb; simp at hb; omega
  | case2 x h ih =>
    intro b hb
    rw [vb_hi h] at hb
    rcases List.mem_cons.1 hb with e | e
    · omega
    · exact ih b e
theorem vb_pos (x : Nat) : 0 < (vb x).length := by
  by_cases h : x < 128
  · rw [vb_lo h]; simp
  · rw [vb_hi h]; simp
/-- bytes as cells -/
def cells (l : List Nat) : List Value := l.map fun (b : Nat) => Value.int .u8 (b : Int)
theorem cells_snoc (l : List Nat) (b : Nat) : cells l ++ [Value.int .u8 (b : Int)] = cells (l ++ [b]) := by simp [cells]

theorem nat_not64 (x : Nat) (h : x < 18446744073709551616) : 18446744073709551615 ^^^ x = 18446744073709551615 - x := by
  have e := BitVec.toNat_not (x := BitVec.ofNat 64 x)
  have e2 : ~~~ (BitVec.ofNat 64 x) = BitVec.allOnes 64 ^^^ BitVec.ofNat 64 x := BitVec.not_def
  rw [e2, BitVec.toNat_xor, BitVec.toNat_allOnes, BitVec.toNat_ofNat, Nat.mod_eq_of_lt (show x < 2 ^ 64 from h)] at e
  exact e
theorem not_u64 (y : Int) (h0 : 0 ≤ y) (h1 : y < 18446744073709551616) : bits .xor .u64 IntKind.u64.max y = 18446744073709551615 - y := by
  obtain ⟨x, rfl⟩ := Int.eq_ofNat_of_zero_le h0
  have e2 : bits .xor .u64 IntKind.u64.max (x : Int) = ((18446744073709551615 ^^^ x : Nat) : Int) := u64_xor_nat 18446744073709551615 x (by decide) (by omega)
  rw [e2, nat_not64 x (by omega)]
  omega
theorem zz_neg (n : Int) (h1 : -9223372036854775808 ≤ n) (h : n < 0) : bits .xor .u64 IntKind.u64.max (IntKind.u64.wrap (IntKind.u64.wrap n * 2)) = (zz n : Int) := by
  rw [not_u64 _ (by rw [IntKind.wrap_u64]; omega) (by rw [IntKind.wrap_u64]; omega), IntKind.wrap_u64, IntKind.wrap_u64]
  unfold zz
  rw [if_pos h]
  omega
theorem zz_pos (n : Int) (h : ¬ n < 0) : n * 2 = (zz n : Int) := by
  unfold zz
  rw [if_neg h]
  omega
theorem fold_any (n : Int) (h1 : -9223372036854775808 ≤ n) (h2 : n ≤ 9223372036854775807) (w : World) : Calls Tryd.prog 67 #[.int .i64 n] w fun e w' => e = .returned (.int .u64 (zz n : Int)) ∧ w = w' := by
  by_cases h : n < 0
  · have H := Lib.hid (fun _ : True => zz_neg n h1 h)
    go_enter Tryd.func67, Tryd.ntmps67
    go_wp2
    go_ret
    exact ⟨ret_int (H.out trivial), rfl⟩
  · have H := Lib.hid (fun _ : True => zz_pos n h)
    go_enter Tryd.func67, Tryd.ntmps67
    go_wp2
    go_ret
    exact ⟨ret_int (H.out trivial), rfl⟩
theorem info8 : (Tryd.prog.info? 5).map (fun i => (i.zero, i.size, i.bytes)) = some (some (.int .u8 0), 1, 1) := by kernel_rfl

/-- a row of bytes of the call's own -/
def Own (B : Nat) (v : Value) (l : List Nat) (w : World) : Prop := w.ownsRow B 5 1 v l.length (cells l)
theorem or128 (x : Nat) : bits .or .u8 (IntKind.u8.wrap (x : Int)) 128 = ((x % 128 + 128 : Nat) : Int) := by
  have e : IntKind.u8.wrap (x : Int) = ((x % 256 : Nat) : Int) := by rw [IntKind.wrap_u8']; omega
  have e2 : bits .or .u8 ((x % 256 : Nat) : Int) ((128 : Nat) : Int) = _ := u8_or_nat (x % 256) 128 (by omega) (by decide)
  have e3 : (x % 256) ||| 128 = x % 128 + 128 := by
    have h1 : x % 256 < 256 := by omega
    have key : ∀ y : Fin 256, (y.val ||| 128) = y.val % 128 + 128 := by decide +kernel
    have := key ⟨x % 256, h1⟩
    simp only at this
    rw [this]; omega
  rw [e]
  rw [e3] at e2
  exact e2
def zeros10 : Array Value := #[.int .u8 0, .int .u8 0, .int .u8 0, .int .u8 0, .int .u8 0, .int .u8 0, .int .u8 0, .int .u8 0, .int .u8 0, .int .u8 0]
def hiB (x : Nat) : Nat := x % 128 + 128
theorem one_byte (b : Int) : ∀ u ∈ [Value.int .u8 b], u.oneCell' = true := by
  intro u h
  rw [List.mem_singleton] at h
  subst h; rfl
theorem byte_small {x : Nat} (h : x < 128) : IntKind.u8.wrap (x : Int) = (x : Int) := IntWalk.u8_in _ ⟨by omega, by omega⟩
theorem cell_one (w : World) (v : Value) (t : TypeId) : ∀ j u, [v][j]? = some u → (w.alloc (.cells #[v] t)).cell? ((⟨w.heap.size, 0, none⟩ : Addr).add j) = some u := by
  intro j u h
  match j, h with
  | 0, h =>
    simp at h; subst h
    rw [show (⟨w.heap.size, 0, none⟩ : Addr).add 0 = ⟨w.heap.size, 0, none⟩ from rfl]
    rw [World.cell?_alloc_at _ _ _ _ rfl]; rfl

theorem own_snoc {B : Nat} {v : Value} {l : List Nat} {b : Nat} {w : World} (h : w.ownsRow B 5 1 v (l.length + 1) (cells l ++ [Value.int .u8 (b : Int)])) : Own B v (l ++ [b]) w := by
  unfold Own
  rw [List.length_append, ← cells_snoc]
  exact h
theorem own_ge {B e size n k : Nat} {v : Value} {xs : List Value} {w : World} (h : w.ownsRow B e size v n xs) (hk : v.ownBlock = some k) : B ≤ k := by
  rcases h.2 with ⟨rfl, _⟩ | ⟨g, cap, cur, rfl, hg, _⟩
  · cases hk
  · simp only [Value.ownBlock, Option.some.injEq] at hk
    omega
theorem below_app {B e size n : Nat} {v : Value} {xs : List Value} {w0 w w' : World} (hb : Below B w0 w) (hs : B ≤ w.heap.size) (o : Obj) (h : w.ownsRow B e size v n xs) (hg : (w.alloc o).grownBy w' v.ownBlock) : Below B w0 w' :=
  (hb.alloc hs o).grown hg (Nat.le_trans hs (by simp)) (fun _ hk => own_ge h hk)
set_option maxRecDepth 20000 in
set_option maxHeartbeats 1000000 in
theorem num_any (n : Int) (h1 : -9223372036854775808 ≤ n) (h2 : n ≤ 9223372036854775807) (w : World) :
    Calls Tryd.prog 48 #[.int .i64 n] w fun e w' => ∃ v, e = .returned v ∧ Own w.heap.size v (vb (zz n)) w' ∧ Below w.heap.size w w' := by
  have hmk : ∀ w, (Instr.makeSlice 29 (.int .i64 0) (.int .i64 10)).run Tryd.prog w = .ok (.slice (some ⟨w.heap.size, 0, none⟩) 0 10) (w.alloc (.cells zeros10 5)) := fun _ => by kernel_rfl
  obtain ⟨i0, hi, hz0, hz1, hz2⟩ := info_parts info8
  have hx := Lib.hid (zz_lt n h1 h2)
  have HL := Lib.hid (fun _ : True => vb_ten (zz n) hx.out)
  go_enter Tryd.func48, Tryd.ntmps48
  go_wp2_with (go_at_call 67; refine (fold_any _ h1 h2 _).mono ?_; rintro e w' ⟨rfl, rfl⟩)
  go_loopw [3, 4] (fun b u wr => ∃ (x : Nat) (bs : List Nat), u = .int .u64 (x : Int) ∧ Own w.heap.size b bs wr ∧ Below w.heap.size w wr ∧ Hid (True → bs ++ vb x = vb (zz n)) ∧ x < 18446744073709551616) (fun _ u _ => (intOf u).toNat)
  case atStart =>
    refine ⟨zz n, [], rfl, ⟨rfl, .inr ⟨w.heap.size, 10, zeros10, rfl, Nat.le_refl _, Array.getElem?_push_size, Nat.zero_le _, by decide, rfl, rfl⟩⟩, (Below.refl _ _).alloc (Nat.le_refl _) _, Lib.hid (fun _ => rfl), hx.out⟩
  case round =>
    obtain ⟨x, bs, rfl, hown, hbel, hv, hx64⟩ := hrel
    have hlen : bs.length + (vb x).length ≤ 10 := by
      have := congrArg List.length (hv.out trivial)
      rw [List.length_append] at this
      have := HL.out trivial
      omega
    have hp := vb_pos x
    have HX := Lib.hid hx64
    have hb9 : bs.length ≤ 9 := by omega
    clear hx64 hp hlen
    have hsz := hbel.size
    by_cases h : x < 128
    · have e1 := byte_small h
      have hv2 := hv.out trivial
      rw [vb_lo h] at hv2
      have HV := Lib.hid (fun _ : True => hv2)
      clear hv hv2
      have k3 : bs.length + 1 ≤ maxLen := by unfold maxLen; omega
      have k4 : (bs.length + 1) * 1 ≤ 140737488355328 := by omega
      have k5 : w.heap.size ≤ (wr.alloc (.cells #[.int .u8 (x : Int)] 5)).heap.size := Nat.le_trans hsz (by simp)
      have K3 := Lib.hid k3
      have K4 := Lib.hid k4
      have K5 := Lib.hid k5
      clear k3 k4 k5
      go_wp2_with (at_builtin; refine wpList_append_own _ rfl _ _ 29 rfl w.heap.size 5 i0 (.int .u8 0) 1 1 Tryd.underlying29 hi hz0 hz1 hz2 rfl (by decide) _ _ _ rfl (hown.alloc _) ⟨wr.heap.size, 0, none⟩ 1 1 [.int .u8 (x : Int)] rfl rfl (cell_one wr _ _) (one_byte _) K3.out K4.out K5.out ?_; intro v' w1 hown' hgrow _)
      go_ret
      exact ⟨v', rfl, by rw [← HV.out trivial]; exact own_snoc hown', below_app hbel hsz _ hown hgrow⟩
    · have e1 : bits .or .u8 ((x : Int) % 256) 128 = (hiB x : Int) := by have := or128 x; rw [IntKind.wrap_u8'] at this; exact this
      have hv2 := hv.out trivial
      rw [vb_hi h] at hv2
      have HV := Lib.hid (fun _ : True => hv2)
      clear hv hv2
      have k3 : bs.length + 1 ≤ maxLen := by unfold maxLen; omega
      have k4 : (bs.length + 1) * 1 ≤ 140737488355328 := by omega
      have k5 : w.heap.size ≤ (wr.alloc (.cells #[.int .u8 (hiB x : Int)] 5)).heap.size := Nat.le_trans hsz (by simp)
      have K3 := Lib.hid k3
      have K4 := Lib.hid k4
      have K5 := Lib.hid k5
      clear k3 k4 k5
      go_wp2_with (at_builtin; refine wpList_append_own _ rfl _ _ 29 rfl w.heap.size 5 i0 (.int .u8 0) 1 1 Tryd.underlying29 hi hz0 hz1 hz2 rfl (by decide) _ _ _ rfl (hown.alloc _) ⟨wr.heap.size, 0, none⟩ 1 1 [.int .u8 (hiB x : Int)] rfl rfl (cell_one wr _ _) (one_byte _) K3.out K4.out K5.out ?_; intro v' w1 hown' hgrow _)
      go_roundw
      case rel => exact ⟨x / 128, bs ++ [hiB x], rfl, own_snoc hown', below_app hbel hsz _ hown hgrow, Lib.hid (fun _ => by rw [← HV.out trivial]; simp [hiB]), by have := HX.out; omega⟩
      case measure => simp [intOf]; omega

open Go.ChangeShapes Go.WideShapes Go.ChangeAt Go.RowKit Go.Lib

/-- a text's bytes as numbers -/
def bytesOf (s : ByteArray) : List Nat := s.data.toList.map fun b => b.toNat
theorem bytesOf_len (s : ByteArray) : (bytesOf s).length = s.size := by simp [bytesOf]
theorem strCells_is (s : ByteArray) : strCells s = cells (bytesOf s) := by simp [strCells, cells, bytesOf]
/-- a text of these bytes -/
def sv (l : List Nat) : ByteArray := strOfNums (l.map fun (b : Nat) => (b : Int))
theorem sv_size (l : List Nat) : (sv l).size = l.length := by unfold sv; rw [strOfNums_size]; simp
theorem sv_append (a b : List Nat) : sv a ++ sv b = sv (a ++ b) := by
  apply ByteArray.ext
  apply Array.toList_inj.1
  simp [sv, strOfNums]
theorem sv_nil : sv [] = { data := #[] } := rfl
theorem sv_bytesOf (s : ByteArray) : sv (bytesOf s) = s := by
  apply ByteArray.ext
  apply Array.toList_inj.1
  have e : ((fun n : Int => UInt8.ofNat n.toNat) ∘ (fun b : Nat => (b : Int)) ∘ fun b : UInt8 => b.toNat) = id := by funext b; simp
  simp [sv, bytesOf, strOfNums, e]
theorem u64small (n : Nat) (h : n ≤ 5000) : (-9223372036854775808 : Int) ≤ (n : Int) ∧ (n : Int) ≤ 9223372036854775807 := by omega

theorem str_any (s : ByteArray) (hs : s.size ≤ 5000) (w : World) :
    Calls Tryd.prog 49 #[.string s] w fun e w' => ∃ v, e = .returned v ∧ Own w.heap.size v (vb (zz (s.size : Int)) ++ bytesOf s) w' ∧ Below w.heap.size w w' := by
  obtain ⟨i0, hi, hz0, hz1, hz2⟩ := info_parts info8
  obtain ⟨b1, b2⟩ := u64small s.size hs
  have HL := Lib.hid (fun _ : True => vb_ten (zz (s.size : Int)) (zz_lt _ b1 b2))
  have HC := Lib.hid (num_any (s.size : Int) b1 b2)
  clear b1 b2
  go_enter Tryd.func49, Tryd.ntmps49
  go_wp2_with fail
  refine (HC.out _).mono ?_
  rintro e w1 ⟨v, rfl, hown, hbel⟩
  have hsz := hbel.size
  have K3 : Hid ((vb (zz (s.size : Int))).length + s.size ≤ maxLen) := Lib.hid (by have := HL.out trivial; unfold maxLen; omega)
  have K4 : Hid ((vb (zz (s.size : Int))).length + s.size ≤ 140737488355328) := Lib.hid (by have := HL.out trivial; omega)
  go_wp2_with (at_builtin; refine wpList_append_own_string _ rfl _ _ 29 9 rfl w.heap.size 5 i0 Tryd.underlying29 Tryd.underlying9 hi hz0 hz1 hz2 _ _ _ rfl hown s rfl K3.out K4.out hsz ?_; intro v' w2 hown' hgrow _)
  go_ret
  refine ⟨v', rfl, ?_, hbel.grown hgrow hsz (fun _ hk => own_ge hown hk)⟩
  unfold Own
  rw [List.length_append, bytesOf_len]
  rw [strCells_is] at hown'
  have e : cells (vb (zz (s.size : Int)) ++ bytesOf s) = cells (vb (zz (s.size : Int))) ++ cells (bytesOf s) := by simp [cells]
  rw [e]
  exact hown'

theorem conv_one (w : World) (b : Nat) : (convert 29 9 (.slice (some ⟨w.heap.size, 0, none⟩) 1 1)).run Tryd.prog (w.alloc (.cells #[.int .u8 (b : Int)] 5)) = .ok (.string (sv [b])) (w.alloc (.cells #[.int .u8 (b : Int)] 5)) :=
  run_convert_bytes_arg (P := Tryd.prog) _ 29 5 Tryd.underlying29 Tryd.underlying5 w.heap.size 0 1 1 [(b : Int)] rfl (fun i hi => by
    obtain rfl : i = 0 := by omega
    exact cell_one w (.int .u8 (b : Int)) 5 0 _ rfl) 9 Tryd.underlying9
theorem sv_add (a b : List Nat) (h : a.length + b.length ≤ 20000) : ∀ w, (Op.stringOp .add (sv a) (sv b)).run Tryd.prog w = .ok (.string (sv (a ++ b))) w := fun w => by
  rw [run_string_add_sum w _ _ (by rw [sv_size, sv_size]; omega), sv_append]

set_option maxRecDepth 20000 in
set_option maxHeartbeats 1000000 in
theorem refNum_any (n : Int) (h1 : -9223372036854775808 ≤ n) (h2 : n ≤ 9223372036854775807) (w : World) :
    Calls Tryd.prog 44 #[.int .i64 n] w fun e w' => e = .returned (.string (sv (vb (zz n)))) ∧ Below w.heap.size w w' := by
  have hx := Lib.hid (zz_lt n h1 h2)
  have HL := Lib.hid (fun _ : True => vb_ten (zz n) hx.out)
  have hz : Hid (True → (n < 0 → bits .xor .u64 IntKind.u64.max (IntKind.u64.wrap (IntKind.u64.wrap n * 2)) = (zz n : Int)) ∧ (¬ n < 0 → n * 2 = (zz n : Int))) := Lib.hid fun _ => ⟨zz_neg n h1, zz_pos n⟩
  by_cases hn : n < 0
  case' pos => have e0 := (hz.out trivial).1 hn
  case' neg => have e0 := (hz.out trivial).2 hn
  all_goals
    go_enter Tryd.func44, Tryd.ntmps44
    go_wp2_with fail
    go_loopw [3, 4] (fun u b wr => ∃ (x : Nat) (bs : List Nat), u = .int .u64 (x : Int) ∧ b = .string (sv bs) ∧ Below w.heap.size w wr ∧ Hid (True → bs ++ vb x = vb (zz n)) ∧ x < 18446744073709551616) (fun u _ _ => (intOf u).toNat)
    case atStart => exact ⟨zz n, [], rfl, rfl, Below.refl _ _, Lib.hid (fun _ => rfl), hx.out⟩
    case round =>
      obtain ⟨x, bs, rfl, rfl, hbel, hv, hx64⟩ := hrel
      have hb9 : bs.length ≤ 9 := by
        have := congrArg List.length (hv.out trivial)
        rw [List.length_append] at this
        have := HL.out trivial
        have := vb_pos x
        omega
      have HX := Lib.hid hx64
      have hsz := hbel.size
      clear hx64 e0
      by_cases h : x < 128
      · have HV : Hid (True → bs ++ [x] = vb (zz n)) := Lib.hid fun _ => by have := hv.out trivial; rwa [vb_lo h] at this
        have hcv := conv_one wr x
        have hadd := sv_add bs [x] (by simp; omega)
        clear hv
        go_wp2_with fail
        go_ret
        exact ⟨by rw [← HV.out trivial]; rfl, hbel.alloc hsz _⟩
      · have HV : Hid (True → bs ++ hiB x :: vb (x / 128) = vb (zz n)) := Lib.hid fun _ => by have := hv.out trivial; rwa [vb_hi h] at this
        have e1 : (x : Int) % 128 + 128 = (hiB x : Int) := rfl
        have e3 : IntKind.u64.wrap ((x : Int) / 128) = ((x / 128 : Nat) : Int) := by have := HX.out; rw [IntWalk.u64_in _ ⟨by omega, by omega⟩]; rfl
        have hcv := conv_one wr (hiB x)
        have hadd := sv_add bs [hiB x] (by simp; omega)
        clear hv
        go_wp2_with fail
        go_roundw
        case rel => exact ⟨x / 128, bs ++ [hiB x], rfl, rfl, hbel.alloc hsz _, Lib.hid (fun _ => by rw [← HV.out trivial]; simp), by have := HX.out; omega⟩
        case measure => simp [intOf]; omega

theorem own_form {B : Nat} {v : Value} {l : List Nat} {w : World} (h : Own B v l w) : ∃ a cap, v = .slice a l.length cap := by
  rcases h.2 with ⟨rfl, e⟩ | ⟨g, cap, cur, rfl, _⟩
  · exact ⟨none, 0, by rw [e]⟩
  · exact ⟨_, _, rfl⟩
theorem cells_get (l : List Nat) (i : Nat) (h : i < l.length) : (cells l)[i]? = some (.int .u8 ((l.map fun (b : Nat) => (b : Int)).getD i 0)) := by
  simp [cells, List.getD, h]
theorem own_cell {B : Nat} {a : Option Addr} {cap : Nat} {l : List Nat} {w : World} (h : Own B (.slice a l.length cap) l w) (hl : 0 < l.length) : ∃ g, a = some ⟨g, 0, none⟩ ∧ B ≤ g ∧ g < w.heap.size ∧ ∀ i, i < l.length → w.cell? ⟨g, i, none⟩ = some (.int .u8 ((l.map fun (b : Nat) => (b : Int)).getD i 0)) := by
  rcases h.2 with ⟨e, e0⟩ | ⟨g, cap', cur, e, hg, hh, h1, h2, h3, h4⟩
  · omega
  · simp only [Value.slice.injEq] at e
    obtain ⟨rfl, _, rfl⟩ := e
    refine ⟨g, rfl, hg, ?_, fun i hi => ?_⟩
    · rcases Nat.lt_or_ge g w.heap.size with hlt | hge
      · exact hlt
      · rw [Array.getElem?_eq_none hge] at hh; cases hh
    · have : w.cell? ⟨g, i, none⟩ = cur[i]? := by simp [World.cell?, hh]
      rw [this, ← cells_get l i hi, ← h4, Nat.mul_one, List.getElem?_take_of_lt hi, Array.getElem?_toList]
theorem own_conv {B : Nat} {a : Option Addr} {cap : Nat} {l : List Nat} {w : World} (h : Own B (.slice a l.length cap) l w) (hl : 0 < l.length) : (convert 29 9 (.slice a l.length cap)).run Tryd.prog w = .ok (.string (sv l)) w := by
  obtain ⟨g, rfl, _, _, hc⟩ := own_cell h hl
  exact run_convert_bytes_arg (P := Tryd.prog) w 29 5 Tryd.underlying29 Tryd.underlying5 g 0 l.length cap (l.map fun (b : Nat) => (b : Int)) (by simp) (fun i hi => by rw [Nat.zero_add]; exact hc i hi) 9 Tryd.underlying9

theorem vb1 : vb (zz (-1)) = [1] := by decide +kernel
theorem vb64 : vb (zz 64) = [128, 1] := by decide +kernel
theorem vb2 : vb (zz ((({ data := #[97, 98] } : ByteArray).size : Nat) : Int)) ++ bytesOf { data := #[97, 98] } = [4, 97, 98] := by decide +kernel
theorem vb_half (m : Nat) : (vb (2 * m)).length = (vb (2 * m + 1)).length := by
  induction m using Nat.strongRecOn with
  | ind m ih =>
    by_cases h : 2 * m < 128
    · rw [vb_lo h, vb_lo (x := 2 * m + 1) (by omega)]; rfl
    · rw [vb_hi h, vb_hi (x := 2 * m + 1) (by omega), List.length_cons, List.length_cons]
      have e1 : 2 * m / 128 = m / 64 := by omega
      have e2 : (2 * m + 1) / 128 = m / 64 := by omega
      rw [e1, e2]
theorem vb_opp (n : Int) : (vb (zz (-1 - n))).length = (vb (zz n)).length := by
  unfold zz
  by_cases h : n < 0
  · rw [if_neg (by omega), if_pos h]
    have e1 : (2 * (-1 - n)).toNat = 2 * (-1 - n).toNat := by omega
    have e2 : (-2 * n - 1).toNat = 2 * (-1 - n).toNat + 1 := by omega
    rw [e1, e2]; exact vb_half _
  · rw [if_pos (by omega), if_neg h]
    have e1 : (2 * n).toNat = 2 * n.toNat := by omega
    have e2 : (-2 * (-1 - n) - 1).toNat = 2 * n.toNat + 1 := by omega
    rw [e1, e2]; exact (vb_half _).symm

/-- the law's own count, behind the rounds -/
theorem size_step (x : Nat) (h : ¬ x < 128) : (vb x).length = (vb (x / 128)).length + 1 := by rw [vb_hi h, List.length_cons]
theorem num_len (n : Int) (h1 : -9223372036854775808 ≤ n) (h2 : n ≤ 9223372036854775807) (c : Nat) (hc : (vb (zz n)).length = c) (w : World) :
    Calls Tryd.prog 48 #[.int .i64 n] w fun e w' => ∃ a cap, e = .returned (.slice a c cap) ∧ Below w.heap.size w w' :=
  (num_any n h1 h2 w).mono fun e w' ⟨v, he, ho, hb⟩ => by
    obtain ⟨a, cap, rfl⟩ := own_form ho
    exact ⟨a, cap, by rw [he, hc], hb⟩
theorem str_len (s : ByteArray) (hs : s.size ≤ 5000) (c : Nat) (hc : (vb (zz (s.size : Int))).length + s.size = c) (w : World) :
    Calls Tryd.prog 49 #[.string s] w fun e w' => ∃ a cap, e = .returned (.slice a c cap) ∧ Below w.heap.size w w' :=
  (str_any s hs w).mono fun e w' ⟨v, he, ho, hb⟩ => by
    obtain ⟨a, cap, rfl⟩ := own_form ho
    exact ⟨a, cap, by rw [he, List.length_append, bytesOf_len, hc], hb⟩
theorem refStr_any (s : ByteArray) (hs : s.size ≤ 5000) (w : World) :
    Calls Tryd.prog 45 #[.string s] w fun e w' => e = .returned (.string (sv (vb (zz (s.size : Int)) ++ bytesOf s))) ∧ Below w.heap.size w w' := by
  obtain ⟨b1, b2⟩ := u64small s.size hs
  have HL := Lib.hid (fun _ : True => vb_ten (zz (s.size : Int)) (zz_lt _ b1 b2))
  have HC := Lib.hid (refNum_any (s.size : Int) b1 b2)
  have hadd : ∀ w, (Op.stringOp .add (sv (vb (zz (s.size : Int)))) s).run Tryd.prog w = .ok (.string (sv (vb (zz (s.size : Int)) ++ bytesOf s))) w := by
    have := sv_add (vb (zz (s.size : Int))) (bytesOf s) (by rw [bytesOf_len]; have := HL.out trivial; omega)
    rwa [sv_bytesOf] at this
  clear b1 b2
  go_enter Tryd.func45, Tryd.ntmps45
  go_wp2_with fail
  refine (HC.out _).mono ?_
  rintro e w1 ⟨rfl, hb⟩
  go_wp2_with fail
  go_ret
  exact ⟨rfl, hb⟩

/-- a row of bytes reads as its text, whatever is made behind it -/
def Reads (v : Value) (t : ByteArray) (w : World) : Prop := ∀ W, Below w.heap.size w W → (convert 29 9 v).run Tryd.prog W = .ok (.string t) W
theorem own_later {B : Nat} {v : Value} {l : List Nat} {w W : World} (h : Own B v l w) (hb : Below w.heap.size w W) : Own B v l W := by
  refine ⟨h.1, ?_⟩
  rcases h.2 with h | ⟨g, cap, cur, e, hg, hh, rest⟩
  · exact .inl h
  · refine .inr ⟨g, cap, cur, e, hg, ?_, rest⟩
    rw [hb.block g ?_]
    · exact hh
    · rcases Nat.lt_or_ge g w.heap.size with hlt | hge
      · exact hlt
      · rw [Array.getElem?_eq_none hge] at hh; cases hh
theorem own_reads {B : Nat} {a : Option Addr} {cap : Nat} {l : List Nat} {w : World} (h : Own B (.slice a l.length cap) l w) (hl : 0 < l.length) : Reads (.slice a l.length cap) (sv l) w :=
  fun _ hb => own_conv (own_later h hb) hl
theorem num_reads (n : Int) (h1 : -9223372036854775808 ≤ n) (h2 : n ≤ 9223372036854775807) (w : World) :
    Calls Tryd.prog 48 #[.int .i64 n] w fun e w' => ∃ a c cap, e = .returned (.slice a c cap) ∧ Below w.heap.size w w' ∧ Reads (.slice a c cap) (sv (vb (zz n))) w' :=
  (num_any n h1 h2 w).mono fun e w' ⟨v, he, ho, hb⟩ => by
    obtain ⟨a, cap, rfl⟩ := own_form ho
    exact ⟨a, _, cap, he, hb, own_reads ho (vb_pos _)⟩
theorem str_reads (s : ByteArray) (hs : s.size ≤ 5000) (w : World) :
    Calls Tryd.prog 49 #[.string s] w fun e w' => ∃ a c cap, e = .returned (.slice a c cap) ∧ Below w.heap.size w w' ∧ Reads (.slice a c cap) (sv (vb (zz (s.size : Int)) ++ bytesOf s)) w' :=
  (str_any s hs w).mono fun e w' ⟨v, he, ho, hb⟩ => by
    obtain ⟨a, cap, rfl⟩ := own_form ho
    exact ⟨a, _, cap, he, hb, own_reads ho (by have := vb_pos (zz (s.size : Int)); rw [List.length_append]; omega)⟩

theorem chain2 {a b c : World} (h : Below a.heap.size a b) (k : Below b.heap.size b c) : Below a.heap.size a c := h.trans (k.mono h.size)
theorem chain5 {a b c d e f : World} (h1 : Below a.heap.size a b) (h2 : Below b.heap.size b c) (h3 : Below c.heap.size c d) (h4 : Below d.heap.size d e) (h5 : Below e.heap.size e f) : Below a.heap.size a f :=
  chain2 h1 (chain2 h2 (chain2 h3 (chain2 h4 h5)))
/-- a folded number's number -/
def uz (x : Nat) : Int := if x % 2 = 1 then -1 - ((x / 2 : Nat) : Int) else ((x / 2 : Nat) : Int)
theorem uz_zz (n : Int) : uz (zz n) = n := by unfold uz zz; split <;> split <;> omega
theorem zz_uz (x : Nat) : zz (uz x) = x := by unfold uz zz; split <;> split <;> omega
theorem uz_lo (x : Nat) (h : x < 18446744073709551616) : -9223372036854775808 ≤ uz x := by unfold uz; split <;> omega
theorem uz_hi (x : Nat) (h : x < 18446744073709551616) : uz x ≤ 9223372036854775807 := by unfold uz; split <;> omega

theorem unfold_any (x : Nat) (hx : x < 18446744073709551616) (w : World) : Calls Tryd.prog 74 #[.int .u64 (x : Int)] w fun e w' => e = .returned (.int .i64 (uz x)) ∧ w = w' := by
  have e1 : bits .and .u64 (x : Int) 1 = ((x % 2 : Nat) : Int) := by
    have := u64_and_nat x 1 hx (by decide)
    rw [nat_mask1] at this
    exact this
  have HX := Lib.hid hx
  by_cases h : x % 2 = 1
  · have e2 : bits .and .u64 (x : Int) 1 = 1 := by rw [e1, h]; rfl
    clear e1
    go_enter Tryd.func74, Tryd.ntmps74
    go_wp2
    go_ret
    exact ⟨ret_int (by rw [show ((x:Int)/2) = ((x / 2 : Nat) : Int) by omega, i64_not _ (by omega)]; unfold uz; split <;> omega), rfl⟩
  · have e2 : bits .and .u64 (x : Int) 1 = 0 := by rw [e1, show x % 2 = 0 by omega]; rfl
    clear e1
    go_enter Tryd.func74, Tryd.ntmps74
    go_wp2
    go_ret
    exact ⟨ret_int (by unfold uz; rw [if_neg h]; omega), rfl⟩

/-- the number at the front: what was read of it, its bytes' count, the error -/
def rd : Nat → Nat → List Nat → Int × Nat × Int
  | _, _, [] => (0, 0, 3)
  | k, u, c :: t => if k = 9 ∧ 1 < c then (0, 0, 2) else if 128 ≤ c then rd (k + 1) (u + c % 128 * 2 ^ (7 * k)) t else if c = 0 ∧ 0 < k then (0, 0, 2) else (uz (u + c % 128 * 2 ^ (7 * k)), k + 1, 0)

/-- bytes in memory -/
def At (w : World) (g o : Nat) (L : List Nat) : Prop := ∀ i, i < L.length → w.cell? ⟨g, o + i, none⟩ = some (.int .u8 ((L.getD i 0 : Nat) : Int))
theorem drop_get (L : List Nat) (k : Nat) (h : k < L.length) : L.drop k = L.getD k 0 :: L.drop (k + 1) := by
  rw [List.drop_eq_getElem_cons h]; simp [List.getD, h]
theorem getD_byte {L : List Nat} (hB : ∀ b ∈ L, b < 256) (k : Nat) : L.getD k 0 < 256 := by
  by_cases h : k < L.length
  · have e : L.getD k 0 = L[k] := by simp [List.getD, h]
    rw [e]; exact hB _ (List.getElem_mem h)
  · have e : L.getD k 0 = 0 := by simp [List.getD, h]
    omega

theorem or_low (x k d : Nat) (hx : x < 2 ^ (7 * k)) (hy : x + d * 2 ^ (7 * k) < 2 ^ 64) :
    bits .or .u64 (x : Int) (IntKind.u64.wrap ((d : Int) * 2 ^ (7 * k))) = ((x + d * 2 ^ (7 * k) : Nat) : Int) := by
  have e1 : ((d : Int) * 2 ^ (7 * k)) = ((d * 2 ^ (7 * k) : Nat) : Int) := by push_cast; rfl
  have e2 : IntKind.u64.wrap ((d * 2 ^ (7 * k) : Nat) : Int) = ((d * 2 ^ (7 * k) : Nat) : Int) := by
    rw [IntKind.wrap_u64]
    generalize d * 2 ^ (7 * k) = z at *
    omega
  have e3 := u64_or_nat x (d * 2 ^ (7 * k)) (by omega) (by omega)
  rw [e1, e2, e3, Nat.or_comm, Nat.mul_comm d, ← Nat.two_pow_add_eq_or_of_lt hx, Nat.add_comm]
theorem and127 (c : Nat) (hc : c < 256) : bits .and .u8 (c : Int) 127 = ((c % 128 : Nat) : Int) := by
  have key : ∀ y : Fin 256, bits .and .u8 ((y.val : Nat) : Int) 127 = ((y.val % 128 : Nat) : Int) := by decide +kernel
  exact key ⟨c, hc⟩
theorem step_lt (x k c : Nat) (hk : k ≤ 9) (hx : x < 2 ^ (7 * k)) (h9 : k = 9 → c ≤ 1) : x + c % 128 * 2 ^ (7 * k) < 2 ^ 64 := by
  by_cases h : k = 9
  · subst h
    have := h9 rfl
    have : c % 128 ≤ 1 := by omega
    have : c % 128 * 2 ^ (7 * 9) ≤ 1 * 2 ^ (7 * 9) := Nat.mul_le_mul_right _ this
    omega
  · have h1 : c % 128 ≤ 127 := by omega
    have h2 : c % 128 * 2 ^ (7 * k) ≤ 127 * 2 ^ (7 * k) := Nat.mul_le_mul_right _ h1
    have h3 : 2 ^ (7 * k) ≤ 2 ^ 56 := Nat.pow_le_pow_right (by decide) (by omega)
    generalize 2 ^ (7 * k) = z at *
    omega
theorem step_lt2 (x k c : Nat) (hx : x < 2 ^ (7 * k)) : x + c % 128 * 2 ^ (7 * k) < 2 ^ (7 * (k + 1)) := by
  have h1 : c % 128 ≤ 127 := by omega
  have h2 : c % 128 * 2 ^ (7 * k) ≤ 127 * 2 ^ (7 * k) := Nat.mul_le_mul_right _ h1
  rw [show 7 * (k + 1) = 7 * k + 7 by omega, Nat.pow_add]
  generalize 2 ^ (7 * k) = z at *
  omega
theorem or_step (x k c : Nat) (hc : c < 256) (hk : k ≤ 9) (hx : x < 2 ^ (7 * k)) (h9 : k = 9 → c ≤ 1) :
    bits .or .u64 (x : Int) (IntKind.u64.wrap (IntKind.u64.wrap (bits .and .u8 (c : Int) 127) * 2 ^ (7 * k))) = ((x + c % 128 * 2 ^ (7 * k) : Nat) : Int) := by
  rw [and127 c hc, show IntKind.u64.wrap ((c % 128 : Nat) : Int) = ((c % 128 : Nat) : Int) by rw [IntKind.wrap_u64]; omega]
  exact or_low x k (c % 128) hx (step_lt x k c hk hx h9)
theorem unfold_at (v : Int) (x : Nat) (e : v = (x : Int)) (hx : x < 18446744073709551616) (w : World) : Calls Tryd.prog 74 #[.int .u64 v] w fun e w' => e = .returned (.int .i64 (uz x)) ∧ w = w' := by
  subst e; exact unfold_any x hx w

def rdV (r : Int × Nat × Int) : Value := .tuple #[.int .i64 r.1, .int .i64 (r.2.1 : Int), .int .i64 r.2.2]
set_option maxRecDepth 20000 in
set_option maxHeartbeats 1000000 in
theorem first_any (g o cap : Nat) (L : List Nat) (hn : L.length ≤ 1000000) (hB : ∀ b ∈ L, b < 256) (w : World) (hc : Hid (At w g o L)) :
    Calls Tryd.prog 69 #[.slice (some ⟨g, o, none⟩) L.length cap] w fun e w' => e = .returned (rdV (rd 0 0 L)) ∧ w = w' := by
  obtain ⟨n, hL⟩ : ∃ n, L.length = n := ⟨_, rfl⟩
  have HL : Hid (True → L.length = n) := Lib.hid fun _ => hL
  rw [hL] at hn ⊢
  clear hL
  generalize hR : rd 0 0 L = R
  have HR : Hid (True → rd 0 0 L = R) := Lib.hid fun _ => hR
  clear hR
  go_enter Tryd.func69, Tryd.ntmps69
  go_wp2_with fail
  go_loop [5, 10] (fun u i => ∃ x k : Nat, u = .int .u64 (x : Int) ∧ i = .int .i64 (k : Int) ∧ k ≤ n ∧ k ≤ 9 ∧ Hid (True → x < 2 ^ (7 * k)) ∧ Hid (True → rd k x (L.drop k) = R)) (fun _ i => n - (intOf i).toNat)
  case atStart => exact ⟨0, 0, rfl, rfl, by omega, by omega, Lib.hid fun _ => by decide, Lib.hid fun _ => by rw [List.drop_zero]; exact HR.out trivial⟩
  case round =>
    obtain ⟨x, k, rfl, rfl, hkn, hk9, hx, hr⟩ := hrel
    by_cases hk : k < n
    · obtain ⟨c, hcc⟩ : ∃ c, L.getD k 0 = c := ⟨_, rfl⟩
      have hcell : w.cell? ⟨g, o + k, none⟩ = some (.int .u8 (c : Int)) := by rw [← hcc]; exact hc.out k (by rw [HL.out trivial]; exact hk)
      have hc256 : c < 256 := by rw [← hcc]; exact getD_byte hB k
      have hr2 : Hid (True → (if k = 9 ∧ 1 < c then (0, 0, 2) else if 128 ≤ c then rd (k + 1) (x + c % 128 * 2 ^ (7 * k)) (L.drop (k + 1)) else if c = 0 ∧ 0 < k then (0, 0, 2) else (uz (x + c % 128 * 2 ^ (7 * k)), k + 1, 0)) = R) :=
        Lib.hid fun _ => by have := hr.out trivial; rw [drop_get L k (by rw [HL.out trivial]; exact hk), hcc] at this; exact this
      clear hr hcc
      by_cases hA : k = 9 ∧ 1 < c
      · obtain ⟨hA1, hA2⟩ := hA
        subst hA1
        have hr3 : Hid (True → ((0, 0, 2) : Int × Nat × Int) = R) := Lib.hid fun _ => by have := hr2.out trivial; rwa [if_pos ⟨rfl, hA2⟩] at this
        clear hr2
        go_wp2_with fail
        go_ret3
        rw [← hr3.out trivial]
        exact ⟨rfl, rfl⟩
      · have HA : Hid (True → k = 9 → c ≤ 1) := Lib.hid fun _ h => by omega
        have hs : Hid (True → ∀ i : Int, i = 2 ^ (7 * k) → bits .or .u64 (x : Int) (IntKind.u64.wrap (IntKind.u64.wrap (bits .and .u8 (c : Int) 127) * i)) = ((x + c % 128 * 2 ^ (7 * k) : Nat) : Int)) :=
          Lib.hid fun _ i hi => by rw [hi]; exact or_step x k c hc256 hk9 (hx.out trivial) (HA.out trivial)
        have hlt : Hid (True → x + c % 128 * 2 ^ (7 * k) < 18446744073709551616) := Lib.hid fun _ => step_lt x k c hk9 (hx.out trivial) (HA.out trivial)
        have hr3 : Hid (True → (if 128 ≤ c then rd (k + 1) (x + c % 128 * 2 ^ (7 * k)) (L.drop (k + 1)) else if c = 0 ∧ 0 < k then (0, 0, 2) else (uz (x + c % 128 * 2 ^ (7 * k)), k + 1, 0)) = R) := Lib.hid fun _ => by have := hr2.out trivial; rwa [if_neg hA] at this
        clear hr2
        by_cases hC : 128 ≤ c
        · have hk8 : k ≤ 8 := by omega
          have hr4 : Hid (True → rd (k + 1) (x + c % 128 * 2 ^ (7 * k)) (L.drop (k + 1)) = R) := Lib.hid fun _ => by have := hr3.out trivial; rwa [if_pos hC] at this
          clear hr3 hA
          go_wp2_with fail
          go_round
          case rel => exact ⟨x + c % 128 * 2 ^ (7 * k), k + 1, ret_val (hs.out trivial _ rfl), by go_num, by omega, by omega, Lib.hid fun _ => step_lt2 x k c (hx.out trivial), hr4⟩
          case measure => simp [intOf]; omega
        · by_cases hD : c = 0 ∧ 0 < k
          · obtain ⟨hD1, hD2⟩ := hD
            subst hD1
            have hr4 : Hid (True → ((0, 0, 2) : Int × Nat × Int) = R) := Lib.hid fun _ => by have := hr3.out trivial; rwa [if_neg hC, if_pos ⟨rfl, hD2⟩] at this
            clear hr3 hA
            by_cases h9 : k = 9
            · subst h9
              go_wp2_with fail
              go_ret3
              rw [← hr4.out trivial]
              exact ⟨rfl, rfl⟩
            · go_wp2_with fail
              go_ret3
              rw [← hr4.out trivial]
              exact ⟨rfl, rfl⟩
          · have hr4 : Hid (True → ((uz (x + c % 128 * 2 ^ (7 * k)), k + 1, 0) : Int × Nat × Int) = R) := Lib.hid fun _ => by have := hr3.out trivial; rwa [if_neg hC, if_neg hD] at this
            clear hr3 hA
            by_cases h9 : k = 9
            · subst h9
              have hc0 : ¬ c = 0 := by omega
              clear hD
              have hc1 : c ≤ 1 := HA.out trivial rfl
              go_wp2_with fail
              refine (unfold_at _ (x + c % 128 * 2 ^ (7 * 9)) (hs.out trivial _ (by decide)) (hlt.out trivial) _).mono ?_
              rintro e w' ⟨rfl, rfl⟩
              go_wp2_with fail
              go_ret3
              rw [← hr4.out trivial]
              exact ⟨rfl, rfl⟩
            · by_cases hc0 : c = 0
              · have hk0 : k = 0 := by omega
                subst hk0
                subst hc0
                clear hD
                have hcell0 : w.cell? ⟨g, o, none⟩ = some (.int .u8 0) := hcell
                clear hcell
                obtain rfl : x = 0 := by have := hx.out trivial; omega
                go_wp2_with fail
                refine (unfold_at _ 0 ?_ (by decide) _).mono ?_
                · decide
                rintro e w' ⟨rfl, rfl⟩
                go_wp2_with fail
                go_ret3
                rw [← hr4.out trivial]
                exact ⟨rfl, rfl⟩
              · clear hD
                go_wp2_with fail
                refine (unfold_at _ (x + c % 128 * 2 ^ (7 * k)) (hs.out trivial _ rfl) (hlt.out trivial) _).mono ?_
                rintro e w' ⟨rfl, rfl⟩
                go_wp2_with fail
                go_ret3
                rw [← hr4.out trivial]
                exact ⟨rfl, rfl⟩
    · have hr2 : Hid (True → ((0, 0, 3) : Int × Nat × Int) = R) := Lib.hid fun _ => by have := hr.out trivial; rw [List.drop_of_length_le (by rw [HL.out trivial]; omega)] at this; exact this
      clear hr
      go_wp2_with fail
      go_ret3
      rw [← hr2.out trivial]
      exact ⟨rfl, rfl⟩

/-- a reader in memory: block g, what is left, its first error -/
def Box (w : World) (g : Nat) (L : List Nat) (err : Int) : Prop :=
  ∃ h o cap, w.heap[g]? = some (.cells #[.slice (some ⟨h, o, none⟩) L.length cap, .int .i64 err] 84 (0, 0)) ∧ L.length ≤ cap ∧ h ≠ g ∧ At w h o L
theorem box_cell0 {w : World} {g : Nat} {v e : Value} {t : TypeId} (h : w.heap[g]? = some (.cells #[v, e] t (0, 0))) : w.cell? ⟨g, 0, none⟩ = some v := by simp [World.cell?, h]
theorem box_cell1 {w : World} {g : Nat} {v e : Value} {t : TypeId} (h : w.heap[g]? = some (.cells #[v, e] t (0, 0))) : w.cell? ⟨g, 1, none⟩ = some e := by simp [World.cell?, h]
theorem box_free {w : World} {g i : Nat} {v e : Value} {t : TypeId} (h : w.heap[g]? = some (.cells #[v, e] t (0, 0))) : w.frozen? ⟨g, i, none⟩ = false := by simp [World.frozen?, h]

theorem mk_bytes (n : Nat) (hn : n ≤ 1000000) (w : World) : ∃ Z : List Value, Z.length = n ∧ (Instr.makeSlice 29 (.int .i64 (n : Int)) (.int .i64 (n : Int))).run Tryd.prog w = .ok (.slice (some ⟨w.heap.size, 0, none⟩) n n) (w.alloc (.cells Z.toArray 5)) := by
  obtain ⟨i0, hi, hz0, hz1, hz2⟩ := info_parts info8
  have h := run_makeSlice (P := Tryd.prog) w 29 5 i0 (.int .u8 0) Tryd.underlying29 hi hz0 .i64 .i64 (n : Int) (n : Int) (by omega) (Int.le_refl _) (by rw [hz1]; simp; omega) (by rw [hz2]; omega) (by omega)
  rw [hz1] at h
  simp only [Int.toNat_natCast, Nat.mul_one] at h
  exact ⟨(madeCells (Value.int IntKind.u8 0).cells n).toList, by rw [Array.length_toList, size_madeCells], by rw [h]⟩

theorem splice_all (Z cs : List Value) (h : cs.length = Z.length) : splice Z 0 cs = cs := by
  unfold splice
  rw [List.take_zero, List.nil_append, Nat.zero_add, h, List.drop_length, List.append_nil]
theorem at_of_row {w : World} {g : Nat} {L : List Nat} {t : TypeId} (h : w.heap[g]? = some (.cells (cells L).toArray t (0, 0))) : At w g 0 L := by
  intro i hi
  have : w.cell? ⟨g, 0 + i, none⟩ = (cells L).toArray[i]? := by simp [World.cell?, h]
  rw [this]
  simp [cells, List.getD, hi]
theorem cells_one (L : List Nat) : ∀ v ∈ cells L, v.oneCell' = true := by
  intro v hv
  obtain ⟨b, _, rfl⟩ := List.mem_map.1 hv
  rfl
theorem cells_len (L : List Nat) : (cells L).length = L.length := by simp [cells]

/-- bytes to be read: whatever slice -/
def Src (w : World) (sp : Option Addr) (L : List Nat) : Prop := 0 < L.length → ∃ ad, sp = some ad ∧ ∀ i, i < L.length → w.cell? (ad.add i) = some (.int .u8 ((L.getD i 0 : Nat) : Int))
theorem src_pos {w : World} {sp : Option Addr} {L : List Nat} (h : Src w sp L) {o : Obj} : 0 < (cells L).length → ∃ ad, sp = some ad ∧ ∀ j v, (cells L)[j]? = some v → (w.alloc o).cell? (ad.add j) = some v := by
  intro hp
  rw [cells_len] at hp
  obtain ⟨ad, rfl, hc⟩ := h hp
  refine ⟨ad, rfl, fun j v hj => ?_⟩
  have hjl : j < L.length := by
    have := (List.getElem?_eq_some_iff.1 hj).1
    rwa [cells_len] at this
  have e : v = .int .u8 ((L.getD j 0 : Nat) : Int) := by
    simp [cells, hjl] at hj
    rw [← hj]; simp [List.getD, hjl]
  rw [e]
  exact (World.cell?_alloc_old w o _ (Nat.ne_of_lt (World.block_lt_of_cell? w _ (hc j hjl)))).trans (hc j hjl)
set_option maxRecDepth 20000 in
theorem open_any (sp : Option Addr) (cap : Nat) (L : List Nat) (hn : L.length ≤ 1000000) (w : World) (hs : Hid (Src w sp L)) :
    Calls Tryd.prog 33 #[.slice sp L.length cap] w fun e w' => ∃ g, e = .returned (.pointer (some ⟨g, 0, none⟩)) ∧ w.heap.size ≤ g ∧ Box w' g L 0 ∧ Below w.heap.size w w' := by
  obtain ⟨Z, hZ, hmk⟩ := mk_bytes L.length hn w
  have HZ := Lib.hid (fun _ : True => hZ)
  clear hZ
  go_enter Tryd.func33, Tryd.ntmps33
  go_wp2_with (refine wpList_copy_splice rfl (.tmp 7) (.tmp 8) 29 29 rfl 5 Tryd.underlying29 (by kernel_rfl) _ _ _ _ _ _ rfl rfl w.heap.size 0 Z 5 Array.getElem?_push_size (cells L) (by rw [cells_len]; simp) (fun hp => ⟨rfl, src_pos hs.out hp⟩) (by rw [cells_len, HZ.out trivial]; omega) (cells_one L) w.heap.size w ((Below.refl _ _).alloc (Nat.le_refl _) _) (Nat.le_refl _) ?_; intro w2 HG2 hB2)
  have hlt : w.heap.size < w2.heap.size := by
    rcases Nat.lt_or_ge w.heap.size w2.heap.size with h | h
    · exact h
    · have := HG2.out; rw [Array.getElem?_eq_none h] at this; cases this
  have hrow := HG2.out
  rw [splice_all Z (cells L) (by rw [cells_len, HZ.out trivial])] at hrow
  clear HG2
  go_ret
  refine ⟨_, rfl, hB2.size, ⟨w.heap.size, 0, L.length, Array.getElem?_push_size, Nat.le_refl _, Nat.ne_of_lt hlt, fun i hi => ?_⟩, hB2.alloc hB2.size _⟩
  have hc := at_of_row hrow i hi
  exact (World.cell?_alloc_old w2 _ _ (Nat.ne_of_lt (World.block_lt_of_cell? w2 _ hc))).trans hc

set_option maxRecDepth 20000 in
theorem err_any (g : Nat) (L : List Nat) (err : Int) (w : World) (hb : Hid (Box w g L err)) :
    Calls Tryd.prog 59 #[.pointer (some ⟨g, 0, none⟩)] w fun e w' => e = .returned (.int .i64 err) ∧ w = w' := by
  obtain ⟨h, o, cap, hg, _⟩ := hb.out
  have hc := box_cell1 hg
  clear hg
  go_enter Tryd.func59, Tryd.ntmps59
  go_wp2
  go_ret
  exact ⟨rfl, rfl⟩
set_option maxRecDepth 20000 in
theorem left_any (g : Nat) (L : List Nat) (err : Int) (w : World) (hb : Hid (Box w g L err)) :
    Calls Tryd.prog 58 #[.pointer (some ⟨g, 0, none⟩)] w fun e w' => e = .returned (.int .i64 (L.length : Int)) ∧ w = w' := by
  obtain ⟨h, o, cap, hg, _⟩ := hb.out
  have hc := box_cell0 hg
  clear hg
  go_enter Tryd.func58, Tryd.ntmps58
  go_wp2
  go_ret
  exact ⟨rfl, rfl⟩

/-- the next number between two -/
def rdB (least most : Int) (L : List Nat) : Int × Nat × Int := if (rd 0 0 L).2.2 = 0 ∧ ((rd 0 0 L).1 < least ∨ most < (rd 0 0 L).1) then (0, 0, 4) else rd 0 0 L
theorem rd_size : ∀ (L : List Nat) (k u : Nat), (rd k u L).2.1 ≤ k + L.length
  | [], _, _ => Nat.zero_le _
  | c :: t, k, u => by
    unfold rd
    have ih := rd_size t (k + 1) (u + c % 128 * 2 ^ (7 * k))
    rw [List.length_cons]
    split
    · exact Nat.zero_le _
    · split
      · omega
      · split
        · exact Nat.zero_le _
        · show k + 1 ≤ _; omega
theorem rd_err : ∀ (L : List Nat) (k u : Nat), (rd k u L).2.2 ≠ 0 → (rd k u L).1 = 0 ∧ (rd k u L).2.1 = 0
  | [], _, _ => fun _ => ⟨rfl, rfl⟩
  | c :: t, k, u => by
    unfold rd
    have ih := rd_err t (k + 1) (u + c % 128 * 2 ^ (7 * k))
    split
    · intro _; exact ⟨rfl, rfl⟩
    · split
      · exact ih
      · split
        · intro _; exact ⟨rfl, rfl⟩
        · intro h; exact absurd rfl h
theorem box_set0 {w : World} {g : Nat} {v e : Value} {t : TypeId} (h : w.heap[g]? = some (.cells #[v, e] t (0, 0))) (u : Value) : (w.setCell ⟨g, 0, none⟩ u).heap[g]? = some (.cells #[u, e] t (0, 0)) := by
  simp [World.setCell, Array.getElem?_modify, h]
theorem box_set1 {w : World} {g : Nat} {v e : Value} {t : TypeId} (h : w.heap[g]? = some (.cells #[v, e] t (0, 0))) (u : Value) : (w.setCell ⟨g, 1, none⟩ u).heap[g]? = some (.cells #[v, u] t (0, 0)) := by
  simp [World.setCell, Array.getElem?_modify, h]
theorem at_set {w : World} {hh oo : Nat} {L : List Nat} (h : At w hh oo L) (g i : Nat) (hne : hh ≠ g) (u : Value) : At (w.setCell ⟨g, i, none⟩ u) hh oo L := fun j hj => by
  have e : (w.setCell ⟨g, i, none⟩ u).cell? ⟨hh, oo + j, none⟩ = w.cell? ⟨hh, oo + j, none⟩ := by simp [World.cell?, Below.heap_setCell w ⟨g, i, none⟩ u hh hne]
  rw [e]; exact h j hj
theorem at_drop {w : World} {hh oo : Nat} {L : List Nat} (h : At w hh oo L) (n : Nat) : At w hh (oo + n) (L.drop n) := fun j hj => by
  have hl : n + j < L.length := by rw [List.length_drop] at hj; omega
  have := h (n + j) hl
  rw [← Nat.add_assoc] at this
  rw [this]
  simp [List.getD, List.getElem?_drop]
theorem below_set (w : World) (g i : Nat) (u : Value) : Below g w (w.setCell ⟨g, i, none⟩ u) := (Below.refl g w).setCell (p := ⟨g, i, none⟩) (Nat.le_refl g) u
theorem at_nil {w : World} {hh oo : Nat} {L : List Nat} (h : L.length = 0) : At w hh oo L := fun j hj => by omega
set_option maxRecDepth 20000 in
set_option maxHeartbeats 1500000 in
theorem inNum_any (g : Nat) (L : List Nat) (least most : Int) (hn : L.length ≤ 1000000) (hB : ∀ b ∈ L, b < 256) (w : World) (hb : Hid (Box w g L 0)) :
    Calls Tryd.prog 55 #[.pointer (some ⟨g, 0, none⟩), .int .i64 least, .int .i64 most] w fun e w' => e = .returned (.int .i64 (rdB least most L).1) ∧ Box w' g (L.drop (rdB least most L).2.1) (rdB least most L).2.2 ∧ Below g w w' := by
  obtain ⟨hh, oo, cap, hg, hcap, hne, hat⟩ := hb.out
  have hc0 := box_cell0 hg
  have hc1 := box_cell1 hg
  have hf0 := box_free (i := 0) hg
  have hf1 := box_free (i := 1) hg
  have HG := Lib.hid (fun _ : True => hg)
  have HF := Lib.hid (first_any hh oo cap L hn hB w (Lib.hid hat))
  have HA := Lib.hid hat
  clear hg hat
  obtain ⟨n, sz, er, hr⟩ : ∃ n sz er, rd 0 0 L = (n, sz, er) := ⟨_, _, _, rfl⟩
  have hsz : sz ≤ L.length := by have := rd_size L 0 0; rw [hr] at this; have h2 : sz ≤ 0 + L.length := this; omega
  have HR := Lib.hid (fun _ : True => hr)
  have HE : Hid (True → er ≠ 0 → n = 0 ∧ sz = 0) := Lib.hid fun _ he => by have := rd_err L 0 0; rw [hr] at this; exact this he
  rw [hr] at HF
  clear hr
  by_cases he : er = 0
  · subst he
    by_cases hlo : n < least ∨ most < n
    · have hR : Hid (True → rdB least most L = (0, 0, 4)) := Lib.hid fun _ => by unfold rdB; rw [HR.out trivial]; exact if_pos ⟨rfl, hlo⟩
      rcases hlo with hlo | hlo
      all_goals
        go_enter Tryd.func55, Tryd.ntmps55
        go_wp2_with (first
          | (go_at_call 59; refine (err_any g L 0 _ hb).mono ?_; rintro e w' ⟨rfl, rfl⟩)
          | (go_at_call 69; refine HF.out.mono ?_; rintro e w' ⟨rfl, rfl⟩; unfold rdV))
        all_goals
          go_ret
          rw [hR.out trivial]
          exact ⟨rfl, ⟨hh, oo, cap, box_set1 (HG.out trivial) _, hcap, hne, at_set HA.out _ _ hne _⟩, below_set _ _ _ _⟩
    · have hR : Hid (True → rdB least most L = (n, sz, 0)) := Lib.hid fun _ => by unfold rdB; rw [HR.out trivial]; exact if_neg fun h => hlo h.2
      have hlo1 : least ≤ n := by omega
      have hlo2 : n ≤ most := by omega
      clear hlo
      by_cases hcs : cap = sz
      · subst hcs
        go_enter Tryd.func55, Tryd.ntmps55
        go_wp2_with (first
          | (go_at_call 59; refine (err_any g L 0 _ hb).mono ?_; rintro e w' ⟨rfl, rfl⟩)
          | (go_at_call 69; refine HF.out.mono ?_; rintro e w' ⟨rfl, rfl⟩; unfold rdV))
        all_goals
          go_ret
          rw [hR.out trivial]
          show _ = _ ∧ Box _ g (L.drop cap) 0 ∧ _
          refine ⟨rfl, ⟨hh, oo, cap - cap, ?_, by rw [List.length_drop]; omega, hne, at_nil (by rw [List.length_drop]; omega)⟩, below_set _ _ _ _⟩
          rw [List.length_drop, show L.length - cap = 0 by omega, Nat.sub_self]
          exact box_set0 (HG.out trivial) _
      · go_enter Tryd.func55, Tryd.ntmps55
        go_wp2_with (first
          | (go_at_call 59; refine (err_any g L 0 _ hb).mono ?_; rintro e w' ⟨rfl, rfl⟩)
          | (go_at_call 69; refine HF.out.mono ?_; rintro e w' ⟨rfl, rfl⟩; unfold rdV))
        all_goals
          go_ret
          rw [hR.out trivial]
          show _ = _ ∧ Box _ g (L.drop sz) 0 ∧ _
          refine ⟨rfl, ⟨hh, oo + sz, cap - sz, ?_, by rw [List.length_drop]; omega, hne, at_set (at_drop HA.out sz) _ _ hne _⟩, below_set _ _ _ _⟩
          rw [List.length_drop]
          exact box_set0 (HG.out trivial) _
  · have hR : Hid (True → rdB least most L = (0, 0, er)) := Lib.hid fun _ => by
      unfold rdB; rw [HR.out trivial, if_neg fun h => he h.1]
      obtain ⟨e1, e2⟩ := HE.out trivial he
      rw [e1, e2]
    go_enter Tryd.func55, Tryd.ntmps55
    go_wp2_with (first
      | (go_at_call 59; refine (err_any g L 0 _ hb).mono ?_; rintro e w' ⟨rfl, rfl⟩)
      | (go_at_call 69; refine HF.out.mono ?_; rintro e w' ⟨rfl, rfl⟩; unfold rdV))
    all_goals
      go_ret
      rw [hR.out trivial]
      exact ⟨rfl, ⟨hh, oo, cap, box_set1 (HG.out trivial) _, hcap, hne, at_set HA.out _ _ hne _⟩, below_set _ _ _ _⟩

/-- a number that is read is of these bytes, and no others -/
theorem rd_ok : ∀ (L : List Nat) (k u : Nat), (∀ b ∈ L, b < 256) → (rd k u L).2.2 = 0 → ∃ y, (rd k u L).1 = uz (u + y * 2 ^ (7 * k)) ∧ k < (rd k u L).2.1 ∧ L.take ((rd k u L).2.1 - k) = vb y ∧ (0 < k → 0 < y)
  | [], _, _, _ => fun h => by unfold rd at h; exact absurd h (by decide)
  | c :: t, k, u, hB => by
    have ih := rd_ok t (k + 1) (u + c % 128 * 2 ^ (7 * k)) (fun b hb => hB b (List.mem_cons_of_mem _ hb))
    have hc := hB c (List.mem_cons_self ..)
    unfold rd
    split
    · intro h; exact absurd h (by decide)
    · split
      · intro h
        obtain ⟨y, h1, h2, h3, h4⟩ := ih h
        have hy := h4 (by omega)
        refine ⟨c % 128 + 128 * y, ?_, by omega, ?_, fun _ => by omega⟩
        · rw [h1]
          congr 1
          rw [show 7 * (k + 1) = 7 * k + 7 by omega, Nat.pow_add, Nat.add_mul]
          generalize 2 ^ (7 * k) = z
          rw [Nat.add_assoc, show (2 : Nat) ^ 7 = 128 from rfl, show y * (z * 128) = 128 * y * z by rw [Nat.mul_comm z, ← Nat.mul_assoc, Nat.mul_comm y]]
        · rw [vb_hi (by omega), show (c % 128 + 128 * y) % 128 + 128 = c by omega, show (c % 128 + 128 * y) / 128 = y by omega, ← h3]
          generalize (rd (k + 1) (u + c % 128 * 2 ^ (7 * k)) t).2.1 = s at *
          rw [show s - k = (s - (k + 1)) + 1 by omega, List.take_succ_cons]
      · split
        · intro h; exact absurd h (by decide)
        · rename_i h1 h2 h3
          intro _
          refine ⟨c, ?_, Nat.lt_succ_self _, ?_, fun hk => by omega⟩
          · show uz _ = _; rw [Nat.mod_eq_of_lt (by omega)]
          · show (c :: t).take (k + 1 - k) = _
            rw [show k + 1 - k = 0 + 1 by omega, List.take_succ_cons, List.take_zero, vb_lo (by omega)]
theorem rd_val : ∀ (L : List Nat) (k u : Nat), (∀ b ∈ L, b < 256) → k ≤ 9 → u < 2 ^ (7 * k) → (rd k u L).2.2 = 0 → ∃ x, x < 18446744073709551616 ∧ (rd k u L).1 = uz x
  | [], _, _, _, _, _ => fun h => by unfold rd at h; exact absurd h (by decide)
  | c :: t, k, u, hB, hk, hu => by
    have ih := fun h => rd_val t (k + 1) (u + c % 128 * 2 ^ (7 * k)) (fun b hb => hB b (List.mem_cons_of_mem _ hb)) h (step_lt2 u k c hu)
    have hc := hB c (List.mem_cons_self ..)
    unfold rd
    split
    · intro h; exact absurd h (by decide)
    · rename_i h1
      split
      · exact ih (by omega)
      · split
        · intro h; exact absurd h (by decide)
        · intro _; exact ⟨_, step_lt u k c hk hu (by omega), rfl⟩
theorem uz_int (x : Nat) (h : x < 18446744073709551616) : -9223372036854775808 ≤ uz x ∧ uz x ≤ 9223372036854775807 := ⟨uz_lo x h, uz_hi x h⟩
theorem rd_int (L : List Nat) (hB : ∀ b ∈ L, b < 256) : -9223372036854775808 ≤ (rd 0 0 L).1 ∧ (rd 0 0 L).1 ≤ 9223372036854775807 := by
  by_cases h : (rd 0 0 L).2.2 = 0
  · obtain ⟨x, hx, e⟩ := rd_val L 0 0 hB (by decide) (by decide) h
    rw [e]; exact uz_int x hx
  · rw [(rd_err L 0 0 h).1]; decide
theorem rdB_wide (L : List Nat) (hB : ∀ b ∈ L, b < 256) : rdB (-9223372036854775808) 9223372036854775807 L = rd 0 0 L := by
  unfold rdB
  have := rd_int L hB
  exact if_neg fun h => by omega

theorem once_src {a0 : Option Addr} {len0 cap0 : Nat} {z0 : List Int} {w : World}
    (w0 : (a0 = none ∧ len0 = 0 ∧ cap0 = 0 ∧ z0 = []) ∨ ∃ x, a0 = some x ∧ len0 ≤ cap0 ∧ cap0 ≤ maxLen ∧ z0.length = cap0 ∧ (∀ i, i < z0.length → w.cell? (x.add i) = some (.int .u8 (z0.getD i 0))) ∧ ∀ n ∈ z0, (Lit.int .u8 n).wf = true)
    (m : Nat) (hm : m ≤ len0) : ∃ L : List Nat, L.length = m ∧ (∀ b ∈ L, b < 256) ∧ Src w a0 L := by
  rcases w0 with ⟨rfl, rfl, rfl, rfl⟩ | ⟨x, rfl, h1, h2, h3, h4, h5⟩
  · exact ⟨[], by simp; omega, by simp, fun h => absurd h (by simp)⟩
  · have hb : ∀ z ∈ z0, 0 ≤ z ∧ z ≤ 255 := fun z hz => bounds_u8 (h5 z hz)
    refine ⟨(z0.take m).map Int.toNat, by simp; omega, ?_, fun _ => ⟨x, rfl, fun i hi => ?_⟩⟩
    · intro b hb'
      obtain ⟨z, hz, rfl⟩ := List.mem_map.1 hb'
      have := hb z (List.mem_of_mem_take hz)
      omega
    · have hi2 : i < m := by simp at hi; omega
      have hi3 : i < z0.length := by omega
      rw [h4 i hi3]
      have hz := hb z0[i] (List.getElem_mem hi3)
      have e1 : z0.getD i 0 = z0[i] := by simp [List.getD, hi3]
      have e2 : ((z0.take m).map Int.toNat).getD i 0 = z0[i].toNat := by simp [List.getD, hi3, hi2]
      rw [e1, e2]
      congr 2; omega
theorem src_at {w : World} {a0 : Option Addr} {L : List Nat} (h : Src w a0 L) (hp : 0 < L.length) : ∃ g o, a0 = some ⟨g, o, none⟩ ∧ At w g o L := by
  obtain ⟨⟨g, o, s⟩, rfl, hc⟩ := h hp
  have h0 := hc 0 hp
  have hs : s = none := by
    cases s with
    | none => rfl
    | some s =>
      simp [World.cell?, Addr.add] at h0
      split at h0 <;> cases h0
  subst hs
  refine ⟨g, o, rfl, fun i hi => ?_⟩
  have := hc i hi
  have e : (⟨g, o, none⟩ : Addr).add i = ⟨g, o + i, none⟩ := by unfold Addr.add; split <;> simp_all
  rwa [e] at this
theorem at_later {w W : World} {g o : Nat} {L : List Nat} (h : At w g o L) (hb : Below w.heap.size w W) : At W g o L := fun i hi => by
  have := h i hi
  rw [hb.cell (World.block_lt_of_cell? w _ this)]; exact this
theorem box_later {w W : World} {g : Nat} {L : List Nat} {e : Int} (h : Box w g L e) (hb : Below w.heap.size w W) : Box W g L e := by
  obtain ⟨hh, o, cap, hg, h1, h2, h3⟩ := h
  refine ⟨hh, o, cap, ?_, h1, h2, at_later h3 hb⟩
  rw [hb.block g ?_]
  · exact hg
  · rcases Nat.lt_or_ge g w.heap.size with hlt | hge
    · exact hlt
    · rw [Array.getElem?_eq_none hge] at hg; cases hg
theorem at_reads {w : World} {g o cap : Nat} {L : List Nat} (h : At w g o L) (n : Nat) (hn : n ≤ L.length) : Reads (.slice (some ⟨g, o, none⟩) n cap) (sv (L.take n)) w := fun W hb =>
  run_convert_bytes_arg (P := Tryd.prog) W 29 5 Tryd.underlying29 Tryd.underlying5 g o n cap ((L.take n).map fun (b : Nat) => (b : Int)) (by simp; omega)
    (fun i hi => by
      rw [at_later h hb i (by omega)]
      congr 2
      simp [List.getD, show i < L.length by omega, hi]) 9 Tryd.underlying9

theorem box_fail {w : World} {g : Nat} {L : List Nat} {err : Int} (h : Box w g L err) (e : Int) : Box (w.setCell ⟨g, 1, none⟩ (.int .i64 e)) g L e := by
  obtain ⟨hh, o, cap, hg, h1, h2, h3⟩ := h
  exact ⟨hh, o, cap, box_set1 hg _, h1, h2, at_set h3 _ _ h2 _⟩
theorem box_facts {w : World} {g : Nat} {L : List Nat} {err : Int} (h : Box w g L err) : w.cell? ⟨g, 1, none⟩ = some (.int .i64 err) ∧ w.frozen? ⟨g, 1, none⟩ = false := by
  obtain ⟨hh, o, cap, hg, _⟩ := h
  exact ⟨box_cell1 hg, box_free hg⟩
set_option maxRecDepth 20000 in
theorem fail_any (g : Nat) (L : List Nat) (err e0 : Int) (w : World) (hb : Hid (Box w g L err)) :
    Calls Tryd.prog 54 #[.pointer (some ⟨g, 0, none⟩), .int .i64 e0] w fun e w' => e = .returned (.tuple #[]) ∧ Box w' g L (if err = 0 then e0 else err) ∧ Below g w w' := by
  obtain ⟨hc, hf⟩ := box_facts hb.out
  have HE := Lib.hid (err_any g L err w hb)
  by_cases h0 : err = 0
  · subst h0
    go_enter Tryd.func54, Tryd.ntmps54
    go_wp2_with fail
    refine HE.out.mono ?_
    rintro e w' ⟨rfl, rfl⟩
    go_wp2_with fail
    go_end0
    exact ⟨rfl, box_fail hb.out e0, below_set _ _ _ _⟩
  · go_enter Tryd.func54, Tryd.ntmps54
    go_wp2_with fail
    refine HE.out.mono ?_
    rintro e w' ⟨rfl, rfl⟩
    go_wp2_with fail
    go_end0
    exact ⟨rfl, hb.out, Below.refl _ _⟩
/-- the error at the end -/
def endE (L : List Nat) (err : Int) : Int := if 0 < L.length ∧ err = 0 then 2 else err
set_option maxRecDepth 20000 in
theorem end_any (g : Nat) (L : List Nat) (err : Int) (w : World) (hb : Hid (Box w g L err)) :
    Calls Tryd.prog 35 #[.pointer (some ⟨g, 0, none⟩)] w fun e w' => e = .returned (.int .i64 (endE L err)) ∧ Box w' g L (endE L err) ∧ Below g w w' := by
  have HL := Lib.hid (left_any g L err w hb)
  have HF := Lib.hid (fail_any g L err 2 w hb)
  have HE := Lib.hid (fun W h => err_any g L (if err = 0 then 2 else err) W h)
  have HE2 := Lib.hid (err_any g L err w hb)
  by_cases h0 : 0 < L.length
  · have hv : endE L err = if err = 0 then 2 else err := by
      unfold endE
      by_cases h : err = 0
      · rw [if_pos ⟨h0, h⟩, if_pos h]
      · rw [if_neg fun x => h x.2, if_neg h]
    rw [hv]
    generalize (if err = 0 then 2 else err) = er at *
    clear hv
    generalize L.length = n at HL h0
    go_enter Tryd.func35, Tryd.ntmps35
    go_wp2_with fail
    refine HL.out.mono ?_
    rintro e w' ⟨rfl, rfl⟩
    go_wp2_with fail
    refine HF.out.mono ?_
    rintro e w2 ⟨rfl, hb2', hl2'⟩
    have hb2 := Lib.hid hb2'
    have hl2 := Lib.hid hl2'
    clear hb2' hl2'
    go_wp2_with fail
    refine (HE.out _ hb2).mono ?_
    rintro e w' ⟨rfl, rfl⟩
    go_wp2_with fail
    go_ret
    exact ⟨rfl, hb2.out, hl2.out⟩
  · have hv : endE L err = err := if_neg fun h => h0 h.1
    rw [hv]
    clear hv
    have h00 : L.length = 0 := by omega
    rw [h00] at HL
    clear h00 h0
    go_enter Tryd.func35, Tryd.ntmps35
    go_wp2_with fail
    refine HL.out.mono ?_
    rintro e w' ⟨rfl, rfl⟩
    go_wp2_with fail
    refine HE2.out.mono ?_
    rintro e w' ⟨rfl, rfl⟩
    go_wp2_with fail
    go_ret
    exact ⟨rfl, hb.out, Below.refl _ _⟩
/-- the text at the front, of so many bytes at most -/
def rdS (most : Int) (L : List Nat) : List Nat × List Nat × Int :=
  let r := rdB 0 most L
  let T := L.drop r.2.1
  if r.2.2 ≠ 0 then ([], T, r.2.2) else if (T.length : Int) < r.1 then ([], T, 3) else (T.take r.1.toNat, T.drop r.1.toNat, 0)
theorem rdB_ge (most : Int) (L : List Nat) (h : (rdB 0 most L).2.2 = 0) : 0 ≤ (rdB 0 most L).1 := by
  unfold rdB at *
  split at h
  · exact absurd h (by decide)
  · rename_i hn
    split
    · exact Int.le_refl _
    · by_cases h0 : (rd 0 0 L).1 < 0
      · exact absurd ⟨h, .inl h0⟩ hn
      · omega

end Go.Proofs.YtpacjcgpeomnaaaDoor.Fw
