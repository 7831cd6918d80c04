/- Contracts of Str, and of the document's Num and Str; 'wires' is true. No condition but that numbers are int's and texts are short. -/
import Derived.Test.YtflgodphphbbjaaBase
namespace Go.Proofs.Ytflgodphphbbjaa
open Go.ChangeShapes Go.WideShapes Go.ChangeAt Go.RowKit Go.Lib

/-- a text's bytes as numbers -/
def bytesOf (s : ByteArray) : List Nat := s.data.toList.map fun b => b.toNat
theorem bytesOf_len (s : ByteArray) : (bytesOf s).length = s.size := by simp [bytesOf]
theorem strCells_is (s : ByteArray) : strCells s = cells (bytesOf s) := by simp [strCells, cells, bytesOf]
/-- a text of these bytes -/
def sv (l : List Nat) : ByteArray := strOfNums (l.map fun (b : Nat) => (b : Int))
theorem sv_size (l : List Nat) : (sv l).size = l.length := by unfold sv; rw [strOfNums_size]; simp
theorem sv_append (a b : List Nat) : sv a ++ sv b = sv (a ++ b) := by
  apply ByteArray.ext
  apply Array.toList_inj.1
  simp [sv, strOfNums]
theorem sv_nil : sv [] = { data := #[] } := rfl
theorem sv_bytesOf (s : ByteArray) : sv (bytesOf s) = s := by
  apply ByteArray.ext
  apply Array.toList_inj.1
  have e : ((fun n : Int => UInt8.ofNat n.toNat) ∘ (fun b : Nat => (b : Int)) ∘ fun b : UInt8 => b.toNat) = id := by funext b; simp
  simp [sv, bytesOf, strOfNums, e]
theorem u64small (n : Nat) (h : n ≤ 5000) : (-9223372036854775808 : Int) ≤ (n : Int) ∧ (n : Int) ≤ 9223372036854775807 := by omega

theorem str_any (s : ByteArray) (hs : s.size ≤ 5000) (w : World) :
    Calls Try.prog 11 #[.string s] w fun e w' => ∃ v, e = .returned v ∧ Own w.heap.size v (vb (zz (s.size : Int)) ++ bytesOf s) w' ∧ Below w.heap.size w w' := by
  obtain ⟨i0, hi, hz0, hz1, hz2⟩ := info_parts info8
  obtain ⟨b1, b2⟩ := u64small s.size hs
  have HL := Lib.hid (fun _ : True => vb_ten (zz (s.size : Int)) (zz_lt _ b1 b2))
  have HC := Lib.hid (num_any (s.size : Int) b1 b2)
  clear b1 b2
  go_enter Try.func11, Try.ntmps11
  go_wp2_with fail
  refine (HC.out _).mono ?_
  rintro e w1 ⟨v, rfl, hown, hbel⟩
  have hsz := hbel.size
  have K3 : Hid ((vb (zz (s.size : Int))).length + s.size ≤ maxLen) := Lib.hid (by have := HL.out trivial; unfold maxLen; omega)
  have K4 : Hid ((vb (zz (s.size : Int))).length + s.size ≤ 140737488355328) := Lib.hid (by have := HL.out trivial; omega)
  go_wp2_with (at_builtin; refine wpList_append_own_string _ rfl _ _ 23 9 rfl w.heap.size 5 i0 Try.underlying23 Try.underlying9 hi hz0 hz1 hz2 _ _ _ rfl hown s rfl K3.out K4.out hsz ?_; intro v' w2 hown' hgrow _)
  go_ret
  refine ⟨v', rfl, ?_, hbel.grown hgrow hsz (fun _ hk => own_ge hown hk)⟩
  unfold Own
  rw [List.length_append, bytesOf_len]
  rw [strCells_is] at hown'
  have e : cells (vb (zz (s.size : Int)) ++ bytesOf s) = cells (vb (zz (s.size : Int))) ++ cells (bytesOf s) := by simp [cells]
  rw [e]
  exact hown'

theorem conv_one (w : World) (b : Nat) : (convert 23 9 (.slice (some ⟨w.heap.size, 0, none⟩) 1 1)).run Try.prog (w.alloc (.cells #[.int .u8 (b : Int)] 5)) = .ok (.string (sv [b])) (w.alloc (.cells #[.int .u8 (b : Int)] 5)) :=
  run_convert_bytes_arg (P := Try.prog) _ 23 5 Try.underlying23 Try.underlying5 w.heap.size 0 1 1 [(b : Int)] rfl (fun i hi => by
    obtain rfl : i = 0 := by omega
    exact cell_one w (.int .u8 (b : Int)) 5 0 _ rfl) 9 Try.underlying9
theorem sv_add (a b : List Nat) (h : a.length + b.length ≤ 20000) : ∀ w, (Op.stringOp .add (sv a) (sv b)).run Try.prog w = .ok (.string (sv (a ++ b))) w := fun w => by
  rw [run_string_add_sum w _ _ (by rw [sv_size, sv_size]; omega), sv_append]

set_option maxRecDepth 20000 in
set_option maxHeartbeats 1000000 in
theorem refNum_any (n : Int) (h1 : -9223372036854775808 ≤ n) (h2 : n ≤ 9223372036854775807) (w : World) :
    Calls Try.prog 10 #[.int .i64 n] w fun e w' => e = .returned (.string (sv (vb (zz n)))) ∧ Below w.heap.size w w' := by
  have hx := Lib.hid (zz_lt n h1 h2)
  have HL := Lib.hid (fun _ : True => vb_ten (zz n) hx.out)
  have hz : Hid (True → (n < 0 → bits .xor .u64 IntKind.u64.max (IntKind.u64.wrap (IntKind.u64.wrap n * 2)) = (zz n : Int)) ∧ (¬ n < 0 → n * 2 = (zz n : Int))) := Lib.hid fun _ => ⟨zz_neg n h1, zz_pos n⟩
  by_cases hn : n < 0
  case' pos => have e0 := (hz.out trivial).1 hn
  case' neg => have e0 := (hz.out trivial).2 hn
  all_goals
    go_enter Try.func10, Try.ntmps10
    go_wp2_with fail
    go_loopw [3, 4] (fun u b wr => ∃ (x : Nat) (bs : List Nat), u = .int .u64 (x : Int) ∧ b = .string (sv bs) ∧ Below w.heap.size w wr ∧ Hid (True → bs ++ vb x = vb (zz n)) ∧ x < 18446744073709551616) (fun u _ _ => (intOf u).toNat)
    case atStart => exact ⟨zz n, [], rfl, rfl, Below.refl _ _, Lib.hid (fun _ => rfl), hx.out⟩
    case round =>
      obtain ⟨x, bs, rfl, rfl, hbel, hv, hx64⟩ := hrel
      have hb9 : bs.length ≤ 9 := by
        have := congrArg List.length (hv.out trivial)
        rw [List.length_append] at this
        have := HL.out trivial
        have := vb_pos x
        omega
      have HX := Lib.hid hx64
      have hsz := hbel.size
      clear hx64 e0
      by_cases h : x < 128
      · have HV : Hid (True → bs ++ [x] = vb (zz n)) := Lib.hid fun _ => by have := hv.out trivial; rwa [vb_lo h] at this
        have hcv := conv_one wr x
        have hadd := sv_add bs [x] (by simp; omega)
        clear hv
        go_wp2_with fail
        go_ret
        exact ⟨by rw [← HV.out trivial]; rfl, hbel.alloc hsz _⟩
      · have HV : Hid (True → bs ++ hiB x :: vb (x / 128) = vb (zz n)) := Lib.hid fun _ => by have := hv.out trivial; rwa [vb_hi h] at this
        have e1 : (x : Int) % 128 + 128 = (hiB x : Int) := rfl
        have e3 : IntKind.u64.wrap ((x : Int) / 128) = ((x / 128 : Nat) : Int) := by have := HX.out; rw [IntWalk.u64_in _ ⟨by omega, by omega⟩]; rfl
        have hcv := conv_one wr (hiB x)
        have hadd := sv_add bs [hiB x] (by simp; omega)
        clear hv
        go_wp2_with fail
        go_roundw
        case rel => exact ⟨x / 128, bs ++ [hiB x], rfl, rfl, hbel.alloc hsz _, Lib.hid (fun _ => by rw [← HV.out trivial]; simp), by have := HX.out; omega⟩
        case measure => simp [intOf]; omega
end Go.Proofs.Ytflgodphphbbjaa
