/- 'wires' is true; the walk of the law WireSizes. No condition but that the number is an int. -/
import Derived.Test.YtflgodphphbbjaaStr
namespace Go.Proofs.Ytflgodphphbbjaa
open Go.ChangeShapes Go.WideShapes Go.ChangeAt Go.RowKit Go.Lib

theorem own_form {B : Nat} {v : Value} {l : List Nat} {w : World} (h : Own B v l w) : ∃ a cap, v = .slice a l.length cap := by
  rcases h.2 with ⟨rfl, e⟩ | ⟨g, cap, cur, rfl, _⟩
  · exact ⟨none, 0, by rw [e]⟩
  · exact ⟨_, _, rfl⟩
theorem cells_get (l : List Nat) (i : Nat) (h : i < l.length) : (cells l)[i]? = some (.int .u8 ((l.map fun (b : Nat) => (b : Int)).getD i 0)) := by
  simp [cells, List.getD, h]
theorem own_cell {B : Nat} {a : Option Addr} {cap : Nat} {l : List Nat} {w : World} (h : Own B (.slice a l.length cap) l w) (hl : 0 < l.length) : ∃ g, a = some ⟨g, 0, none⟩ ∧ B ≤ g ∧ g < w.heap.size ∧ ∀ i, i < l.length → w.cell? ⟨g, i, none⟩ = some (.int .u8 ((l.map fun (b : Nat) => (b : Int)).getD i 0)) := by
  rcases h.2 with ⟨e, e0⟩ | ⟨g, cap', cur, e, hg, hh, h1, h2, h3, h4⟩
  · omega
  · simp only [Value.slice.injEq] at e
    obtain ⟨rfl, _, rfl⟩ := e
    refine ⟨g, rfl, hg, ?_, fun i hi => ?_⟩
    · rcases Nat.lt_or_ge g w.heap.size with hlt | hge
      · exact hlt
      · rw [Array.getElem?_eq_none hge] at hh; cases hh
    · have : w.cell? ⟨g, i, none⟩ = cur[i]? := by simp [World.cell?, hh]
      rw [this, ← cells_get l i hi, ← h4, Nat.mul_one, List.getElem?_take_of_lt hi, Array.getElem?_toList]
theorem own_conv {B : Nat} {a : Option Addr} {cap : Nat} {l : List Nat} {w : World} (h : Own B (.slice a l.length cap) l w) (hl : 0 < l.length) : (convert 23 9 (.slice a l.length cap)).run Try.prog w = .ok (.string (sv l)) w := by
  obtain ⟨g, rfl, _, _, hc⟩ := own_cell h hl
  exact run_convert_bytes_arg (P := Try.prog) w 23 5 Try.underlying23 Try.underlying5 g 0 l.length cap (l.map fun (b : Nat) => (b : Int)) (by simp) (fun i hi => by rw [Nat.zero_add]; exact hc i hi) 9 Try.underlying9

theorem vb1 : vb (zz (-1)) = [1] := by decide +kernel
theorem vb64 : vb (zz 64) = [128, 1] := by decide +kernel
theorem vb2 : vb (zz ((({ data := #[97, 98] } : ByteArray).size : Nat) : Int)) ++ bytesOf { data := #[97, 98] } = [4, 97, 98] := by decide +kernel
set_option maxRecDepth 20000 in
theorem wires_any (w : World) : Calls Try.prog 8 #[] w fun e w' => e = .returned (.bool true) ∧ Below w.heap.size w w' := by
  have H1 := Lib.hid (num_any (-1) (by decide) (by decide))
  have H2 := Lib.hid (str_any { data := #[97, 98] } (by decide))
  have H3 := Lib.hid (num_any 64 (by decide) (by decide))
  rw [vb1] at H1
  rw [vb2] at H2
  rw [vb64] at H3
  have s1 : (sv [1]).toList = [1] := by rw [ByteArray.toList_eq]; decide +kernel
  have s2 : (sv [4, 97, 98]).toList = [4, 97, 98] := by rw [ByteArray.toList_eq]; decide +kernel
  have s3 : (sv [128, 1]).toList = [128, 1] := by rw [ByteArray.toList_eq]; decide +kernel
  go_enter Try.func8, Try.ntmps8
  go_wp2_with fail
  refine (H1.out _).mono ?_
  rintro e w1 ⟨v, rfl, hown, hb1⟩
  obtain ⟨a, cap, rfl⟩ := own_form hown
  have hcv : (convert 23 9 (.slice a 1 cap)).run Try.prog w1 = .ok (.string (sv [1])) w1 := own_conv hown (by decide)
  clear hown
  go_wp2_with fail
  refine (H2.out _).mono ?_
  rintro e w2 ⟨v, rfl, hown, hb2⟩
  obtain ⟨a2, cap2, rfl⟩ := own_form hown
  have hcv2 : (convert 23 9 (.slice a2 3 cap2)).run Try.prog w2 = .ok (.string (sv [4, 97, 98])) w2 := own_conv hown (by decide)
  clear hown hcv
  go_wp2_with fail
  refine (H3.out _).mono ?_
  rintro e w3 ⟨v, rfl, hown, hb3⟩
  obtain ⟨a3, cap3, rfl⟩ := own_form hown
  have hcv3 : (convert 23 9 (.slice a3 2 cap3)).run Try.prog w3 = .ok (.string (sv [128, 1])) w3 := own_conv hown (by decide)
  clear hown hcv2
  go_wp2_with fail
  go_ret
  exact ⟨rfl, hb1.trans ((hb2.mono hb1.size).trans (hb3.mono (Nat.le_trans hb1.size hb2.size)))⟩

theorem vb_half (m : Nat) : (vb (2 * m)).length = (vb (2 * m + 1)).length := by
  induction m using Nat.strongRecOn with
  | ind m ih =>
    by_cases h : 2 * m < 128
    · rw [vb_lo h, vb_lo (x := 2 * m + 1) (by omega)]; rfl
    · rw [vb_hi h, vb_hi (x := 2 * m + 1) (by omega), List.length_cons, List.length_cons]
      have e1 : 2 * m / 128 = m / 64 := by omega
      have e2 : (2 * m + 1) / 128 = m / 64 := by omega
      rw [e1, e2]
theorem vb_opp (n : Int) : (vb (zz (-1 - n))).length = (vb (zz n)).length := by
  unfold zz
  by_cases h : n < 0
  · rw [if_neg (by omega), if_pos h]
    have e1 : (2 * (-1 - n)).toNat = 2 * (-1 - n).toNat := by omega
    have e2 : (-2 * n - 1).toNat = 2 * (-1 - n).toNat + 1 := by omega
    rw [e1, e2]; exact vb_half _
  · rw [if_pos (by omega), if_neg h]
    have e1 : (2 * n).toNat = 2 * n.toNat := by omega
    have e2 : (-2 * (-1 - n) - 1).toNat = 2 * n.toNat + 1 := by omega
    rw [e1, e2]; exact (vb_half _).symm

/-- the law's own count, behind the rounds -/
theorem size_step (x : Nat) (h : ¬ x < 128) : (vb x).length = (vb (x / 128)).length + 1 := by rw [vb_hi h, List.length_cons]
theorem num_len (n : Int) (h1 : -9223372036854775808 ≤ n) (h2 : n ≤ 9223372036854775807) (c : Nat) (hc : (vb (zz n)).length = c) (w : World) :
    Calls Try.prog 9 #[.int .i64 n] w fun e w' => ∃ a cap, e = .returned (.slice a c cap) ∧ Below w.heap.size w w' :=
  (num_any n h1 h2 w).mono fun e w' ⟨v, he, ho, hb⟩ => by
    obtain ⟨a, cap, rfl⟩ := own_form ho
    exact ⟨a, cap, by rw [he, hc], hb⟩
theorem str_len (s : ByteArray) (hs : s.size ≤ 5000) (c : Nat) (hc : (vb (zz (s.size : Int))).length + s.size = c) (w : World) :
    Calls Try.prog 11 #[.string s] w fun e w' => ∃ a cap, e = .returned (.slice a c cap) ∧ Below w.heap.size w w' :=
  (str_any s hs w).mono fun e w' ⟨v, he, ho, hb⟩ => by
    obtain ⟨a, cap, rfl⟩ := own_form ho
    exact ⟨a, cap, by rw [he, List.length_append, bytesOf_len, hc], hb⟩
set_option maxRecDepth 20000 in
set_option maxHeartbeats 2000000 in
theorem wireSizes_walk (n : Int) (s : ByteArray) (h1 : -9223372036854775808 ≤ n) (h2 : n ≤ 9223372036854775807) (w : World) :
    Calls Try.prog 7 #[.int .i64 n, .string s] w fun e w' => e = .returned (.bool true) ∧ Below w.heap.size w w' := by
  have hz : Hid (True → (n < 0 → bits .xor .u64 IntKind.u64.max (IntKind.u64.wrap (IntKind.u64.wrap n * 2)) = (zz n : Int)) ∧ (¬ n < 0 → n * 2 = (zz n : Int))) := Lib.hid fun _ => ⟨zz_neg n h1, zz_pos n⟩
  obtain ⟨c, hc⟩ : ∃ c, (vb (zz n)).length = c := ⟨_, rfl⟩
  have HX := Lib.hid (zz_lt n h1 h2)
  have HC10 : Hid (True → c ≤ 10) := Lib.hid fun _ => by rw [← hc]; exact vb_ten _ HX.out
  have H1 := Lib.hid (num_len n h1 h2 c hc)
  have H2 := Lib.hid (num_len (-1 - n) (by omega) (by omega) c (by rw [vb_opp]; exact hc))
  have HC := Lib.hid (fun _ : True => hc)
  clear hc
  by_cases hs : s.size ≤ 2000
  · obtain ⟨d, hd⟩ : ∃ d, (vb (zz (s.size : Int))).length = d := ⟨_, rfl⟩
    have hd10 : d ≤ 10 := by rw [← hd]; exact vb_ten _ (zz_lt _ (by omega) (by omega))
    have H3 := Lib.hid (str_len s (by omega) (d + s.size) (by rw [hd]))
    have H4 := Lib.hid (num_len (s.size : Int) (by omega) (by omega) d hd)
    clear hd
    by_cases hn : n < 0
    case' pos => have e0 := (hz.out trivial).1 hn
    case' neg => have e0 := (hz.out trivial).2 hn
    all_goals
      go_enter Try.func7, Try.ntmps7
      go_wp2_with fail
      clear e0
      go_loop [5, 6] (fun sz u => ∃ x k : Nat, u = .int .u64 (x : Int) ∧ sz = .int .i64 (k : Int) ∧ Hid (True → k + (vb x).length = c + 1) ∧ k ≤ 10 ∧ x < 18446744073709551616) (fun _ u => (intOf u).toNat)
      case atStart => exact ⟨zz n, 1, rfl, rfl, Lib.hid (fun _ => by rw [HC.out trivial]; omega), by omega, HX.out⟩
      case round =>
        obtain ⟨x, k, rfl, rfl, hk, hk10, hx64⟩ := hrel
        have HX2 := Lib.hid hx64
        clear hx64
        by_cases h : x < 128
        · obtain rfl : k = c := by have := hk.out trivial; rw [vb_lo h] at this; simpa using this
          clear hk
          go_wp2_with fail
          refine (wires_any _).mono ?_
          rintro e w1 ⟨rfl, hb1⟩
          go_wp2_with fail
          refine (H1.out _).mono ?_
          rintro e w2 ⟨a1, cap1, rfl, hb2⟩
          go_wp2_with fail
          refine (H2.out _).mono ?_
          rintro e w3 ⟨a2, cap2, rfl, hb3⟩
          go_wp2_with fail
          refine (H3.out _).mono ?_
          rintro e w4 ⟨a3, cap3, rfl, hb4⟩
          go_wp2_with fail
          refine (H4.out _).mono ?_
          rintro e w5 ⟨a4, cap4, rfl, hb5⟩
          go_wp2_with fail
          go_ret
          have z1 := hb1.size
          have z2 := Nat.le_trans z1 hb2.size
          have z3 := Nat.le_trans z2 hb3.size
          have z4 := Nat.le_trans z3 hb4.size
          exact ⟨rfl, hb1.trans ((hb2.mono z1).trans ((hb3.mono z2).trans ((hb4.mono z3).trans (hb5.mono z4))))⟩
        · have HV : Hid (True → k + 1 + (vb (x / 128)).length = c + 1) := Lib.hid fun _ => by have := hk.out trivial; rw [size_step x h] at this; omega
          have hk9 : k ≤ 9 := by have := HV.out trivial; have := vb_pos (x / 128); have := HC10.out trivial; omega
          clear hk
          go_wp2_with fail
          go_round
          case rel => exact ⟨x / 128, k + 1, rfl, by go_num, HV, by omega, by have := HX2.out; omega⟩
          case measure => simp [intOf]; omega

  · obtain ⟨d, hd⟩ : ∃ d, (vb (zz ((2000 : Nat) : Int))).length = d := ⟨_, rfl⟩
    have hd10 : d ≤ 10 := by rw [← hd]; exact vb_ten _ (zz_lt _ (by omega) (by omega))
    have ht : (s.extract 0 2000).size = 2000 := by rw [ByteArray.size_extract]; omega
    have H3 := Lib.hid (str_len (s.extract 0 2000) (by omega) (d + 2000) (by rw [ht, hd]))
    have H4 : Hid (∀ w : World, Calls Try.prog 9 #[.int .i64 2000] w fun e w' => ∃ a cap, e = .returned (.slice a d cap) ∧ Below w.heap.size w w') := Lib.hid (num_len ((2000 : Nat) : Int) (by omega) (by omega) d hd)
    clear hd
    by_cases hn : n < 0
    case' pos => have e0 := (hz.out trivial).1 hn
    case' neg => have e0 := (hz.out trivial).2 hn
    all_goals
      go_enter Try.func7, Try.ntmps7
      go_wp2_with fail
      clear e0
      go_loop [5, 6] (fun sz u => ∃ x k : Nat, u = .int .u64 (x : Int) ∧ sz = .int .i64 (k : Int) ∧ Hid (True → k + (vb x).length = c + 1) ∧ k ≤ 10 ∧ x < 18446744073709551616) (fun _ u => (intOf u).toNat)
      case atStart => exact ⟨zz n, 1, rfl, rfl, Lib.hid (fun _ => by rw [HC.out trivial]; omega), by omega, HX.out⟩
      case round =>
        obtain ⟨x, k, rfl, rfl, hk, hk10, hx64⟩ := hrel
        have HX2 := Lib.hid hx64
        clear hx64
        by_cases h : x < 128
        · obtain rfl : k = c := by have := hk.out trivial; rw [vb_lo h] at this; simpa using this
          clear hk
          go_wp2_with fail
          refine (wires_any _).mono ?_
          rintro e w1 ⟨rfl, hb1⟩
          go_wp2_with fail
          refine (H1.out _).mono ?_
          rintro e w2 ⟨a1, cap1, rfl, hb2⟩
          go_wp2_with fail
          refine (H2.out _).mono ?_
          rintro e w3 ⟨a2, cap2, rfl, hb3⟩
          go_wp2_with fail
          refine (H3.out _).mono ?_
          rintro e w4 ⟨a3, cap3, rfl, hb4⟩
          go_wp2_with fail
          refine (H4.out _).mono ?_
          rintro e w5 ⟨a4, cap4, rfl, hb5⟩
          go_wp2_with fail
          go_ret
          have z1 := hb1.size
          have z2 := Nat.le_trans z1 hb2.size
          have z3 := Nat.le_trans z2 hb3.size
          have z4 := Nat.le_trans z3 hb4.size
          exact ⟨rfl, hb1.trans ((hb2.mono z1).trans ((hb3.mono z2).trans ((hb4.mono z3).trans (hb5.mono z4))))⟩
        · have HV : Hid (True → k + 1 + (vb (x / 128)).length = c + 1) := Lib.hid fun _ => by have := hk.out trivial; rw [size_step x h] at this; omega
          have hk9 : k ≤ 9 := by have := HV.out trivial; have := vb_pos (x / 128); have := HC10.out trivial; omega
          clear hk
          go_wp2_with fail
          go_round
          case rel => exact ⟨x / 128, k + 1, rfl, by go_num, HV, by omega, by have := HX2.out; omega⟩
          case measure => simp [intOf]; omega

end Go.Proofs.Ytflgodphphbbjaa
