/- The document's own sectors, as texts: heads, records' first sectors; the age that a sector tells. -/
import Derived.Test.YtfhgdcljhncjmaaDoorWalZI
import Derived.Test.YtfhgdcljhncjmaaDoorFr
namespace Go.Proofs.YtfhgdcljhncjmaaDoor
open Go.ChangeShapes Go.WideShapes Go.ChangeAt Go.RowKit
set_option linter.unusedVariables false
set_option maxRecDepth 20000

theorem close_len (L : List Nat) : (closeL L).length = L.length + 4 := by unfold closeL; simp [Fc.four]
theorem closed_x (L : List Nat) (hL : L.length ≤ 1000) (hB : ∀ b ∈ L, b < 256) (s t : ByteArray) (hs : Fc.sv L = s) (ht : Fc.sv (closeL L) = t) (w : World) :
    Calls Tryd.prog 49 #[.string s] w fun e w' => e = .returned (.string t) ∧ Hid (Below w.heap.size w w') := by
  have H1 := Lib.hid (Fc.refSum_sv L (by omega) hB w)
  obtain ⟨S, hS⟩ : ∃ S, Fc.crcOf L = S := ⟨_, rfl⟩
  have hlt := crc_lt L
  obtain ⟨u, hu⟩ : ∃ u, Fc.sv (Fc.four S) = u := ⟨_, rfl⟩
  have hadd : ∀ w, (Op.stringOp .add s u).run Tryd.prog w = .ok (.string t) w := fun w => by
    rw [← hs, ← hu, ← ht]
    unfold closeL
    rw [hS]
    exact Fw.sv_add L _ (by simp [Fc.four]; omega) w
  rw [hS] at H1 hlt
  rw [hs] at H1
  have H2 := Lib.hid (Fc.four_any S hlt w)
  rw [hu] at H2
  clear hs hu ht hS hB
  go_enter Tryd.func49, Tryd.ntmps49
  go_wp2_with fail
  refine H1.out.mono ?_
  rintro e w1 ⟨rfl, rfl⟩
  go_wp2_with fail
  refine H2.out.mono ?_
  rintro e w2 ⟨rfl, hb⟩
  have HB := Lib.hid hb
  clear hb
  go_wp2_with fail
  go_ret
  exact ⟨rfl, HB⟩
theorem pad_x (L : List Nat) (hL : L.length ≤ 512) (s t : ByteArray) (hs : Fc.sv L = s) (ht : Fc.sv (padL L) = t) (w : World) :
    Calls Tryd.prog 42 #[.string s] w fun e w' => e = .returned (.string t) ∧ Hid (Below w.heap.size w w') := by
  have hsz : s.size = L.length := by rw [← hs, sv_size']
  obtain ⟨m, hm⟩ : ∃ m, 512 - s.size = m := ⟨_, rfl⟩
  have hw : IntKind.i64.wrap (512 - (s.size : Int)) = (m : Int) := by rw [IntKind.wrap_i64]; omega
  have hmk := fun W => Fc.mk_bytes m (by omega) W
  have hA : Below w.heap.size w (w.alloc (.cells (Fc.cells (List.replicate m 0)).toArray 5)) := (Below.refl _ w).alloc (Nat.le_refl _) _
  obtain ⟨u, hu⟩ : ∃ u, Fc.sv (List.replicate m 0) = u := ⟨_, rfl⟩
  have hcv : (convert 34 9 (.slice (some ⟨w.heap.size, 0, none⟩) m m)).run Tryd.prog (w.alloc (.cells (Fc.cells (List.replicate m 0)).toArray 5)) = .ok (.string u) (w.alloc (.cells (Fc.cells (List.replicate m 0)).toArray 5)) := by
    have h := Fc.src_conv0 ((row_zeros 0 m w).src) m (fun e => by cases e)
    rw [hu, List.length_replicate] at h
    exact h
  have hadd : ∀ w, (Op.stringOp .add s u).run Tryd.prog w = .ok (.string t) w := fun w => by
    have e : padL L = L ++ List.replicate m 0 := by unfold padL; rw [← hm, hsz]
    rw [← hs, ← hu, ← ht, e]
    exact Fw.sv_add L _ (by simp; omega) w
  have HA := Lib.hid hA
  clear hu hm hA hs ht hsz
  go_enter Tryd.func42, Tryd.ntmps42
  go_wp2_with fail
  go_ret
  exact ⟨rfl, HA⟩
theorem refHead_x (n : Int) (hn : Fw.IntOk n) (t : ByteArray) (ht : Fc.sv (padL (headL n)) = t) (w : World) :
    Calls Tryd.prog 25 #[.int .i64 n] w fun e w' => e = .returned (.string t) ∧ Hid (Below w.heap.size w w') := by
  have hv := Fw.vb_ten _ (Fw.zz_lt n hn.1 hn.2)
  obtain ⟨s1, h1⟩ : ∃ s, Fc.sv (Fw.vb (Fw.zz n)) = s := ⟨_, rfl⟩
  obtain ⟨s2, h2⟩ : ∃ s, Fc.sv ([76, 71] ++ Fw.vb (Fw.zz n)) = s := ⟨_, rfl⟩
  obtain ⟨s3, h3⟩ : ∃ s, Fc.sv (closeL ([76, 71] ++ Fw.vb (Fw.zz n))) = s := ⟨_, rfl⟩
  have hb : ∀ b ∈ [76, 71] ++ Fw.vb (Fw.zz n), b < 256 := fun b hb => by
    rcases List.mem_append.1 hb with h | h
    · simp at h; omega
    · exact Fw.vb_byte _ b h
  have hadd : ∀ w, (Op.stringOp .add ⟨#[76, 71]⟩ s1).run Tryd.prog w = .ok (.string s2) w := fun w => by
    rw [← h1, ← h2]
    exact Fw.sv_add [76, 71] _ (by simp; omega) w
  have H1 : Hid (Calls Tryd.prog 50 #[.int .i64 n] w fun e w' => e = .returned (.string s1) ∧ Below w.heap.size w w') := Lib.hid (by rw [← h1]; exact Fw.refNum_any n hn.1 hn.2 w)
  have H2 := Lib.hid (fun W => closed_x _ (by simp; omega) hb s2 s3 h2 h3 W)
  have H3 := Lib.hid (fun W => pad_x _ (by rw [close_len]; simp; omega) s3 t h3 ht W)
  clear hv h1 h2 h3 hb ht
  go_enter Tryd.func25, Tryd.ntmps25
  go_wp2_with fail
  refine H1.out.mono ?_
  rintro e w1 ⟨rfl, hb1⟩
  have hb1 := Lib.hid hb1
  go_wp2_with fail
  refine (H2.out w1).mono ?_
  rintro e w2 ⟨rfl, hb2⟩
  go_wp2_with fail
  refine (H3.out w2).mono ?_
  rintro e w3 ⟨rfl, hb3⟩
  go_wp2_with fail
  go_ret
  exact ⟨rfl, Lib.hid ((hb1.out.trans (hb2.out.mono hb1.out.size)).trans (hb3.out.mono (Nat.le_trans hb1.out.size hb2.out.size)))⟩
set_option maxHeartbeats 1000000 in
theorem refFirst_x (a n : Int) (ha : Fw.IntOk a) (hn : Fw.IntOk n) (b : List Nat) (m : Nat) (hm : b.length = m) (hm2 : m ≤ 100000) (hb : ∀ x ∈ b, x < 256) (s t : ByteArray) (hs : Fc.sv b = s) (ht : Fc.sv (padL (firstL a n (m : Int) ((Fc.crcOf b : Nat) : Int))) = t) (w : World) :
    Calls Tryd.prog 26 #[.int .i64 a, .int .i64 n, .string s] w fun e w' => e = .returned (.string t) ∧ Hid (Below w.heap.size w w') := by
  have hsz : s.size = m := by rw [← hs, sv_size', hm]
  obtain ⟨S, hS⟩ : ∃ S, Fc.crcOf b = S := ⟨_, rfl⟩
  have hlt := crc_lt b
  rw [hS] at hlt ht
  have l1 := Fw.vb_ten _ (Fw.zz_lt a ha.1 ha.2)
  have l2 := Fw.vb_ten _ (Fw.zz_lt n hn.1 hn.2)
  have l3 := Fw.vb_ten _ (Fw.zz_lt (m : Int) (by omega) (by omega))
  have l4 := Fw.vb_ten _ (Fw.zz_lt (S : Int) (by omega) (by omega))
  have y1 := Fw.vb_byte (Fw.zz a)
  have y2 := Fw.vb_byte (Fw.zz n)
  have y3 := Fw.vb_byte (Fw.zz (m : Int))
  have y4 := Fw.vb_byte (Fw.zz (S : Int))
  have H1 := Lib.hid (Fw.refNum_any a ha.1 ha.2 w)
  have H2 := Lib.hid (fun W => Fw.refNum_any n hn.1 hn.2 W)
  have H3 := Lib.hid (fun W => Fw.refNum_any (m : Int) (by omega) (by omega) W)
  have H4 : Hid (∀ W, Calls Tryd.prog 51 #[.string s] W fun e w' => e = .returned (.int .u32 (S : Int)) ∧ W = w') := Lib.hid (fun W => by rw [← hs, ← hS]; exact Fc.refSum_sv b (by omega) hb W)
  have H5 := Lib.hid (fun W => Fw.refNum_any (S : Int) (by omega) (by omega) W)
  have hwc : IntKind.i64.wrap ((S : Nat) : Int) = (S : Int) := by rw [IntKind.wrap_i64]; omega
  generalize hv1 : Fw.vb (Fw.zz a) = V1 at *
  generalize hv2 : Fw.vb (Fw.zz n) = V2 at *
  generalize hv3 : Fw.vb (Fw.zz (m : Int)) = V3 at *
  generalize hv4 : Fw.vb (Fw.zz (S : Int)) = V4 at *
  have et : Fc.sv (padL ([72] ++ closeL (V1 ++ V2 ++ V3 ++ V4))) = t := by rw [← ht]; unfold firstL; rw [hv1, hv2, hv3, hv4]
  obtain ⟨t1, h1⟩ : ∃ s, Fw.sv V1 = s := ⟨_, rfl⟩
  obtain ⟨t2, h2⟩ : ∃ s, Fw.sv V2 = s := ⟨_, rfl⟩
  obtain ⟨t3, h3⟩ : ∃ s, Fw.sv V3 = s := ⟨_, rfl⟩
  obtain ⟨t4, h4⟩ : ∃ s, Fw.sv V4 = s := ⟨_, rfl⟩
  obtain ⟨u2, k2⟩ : ∃ s, Fw.sv (V1 ++ V2) = s := ⟨_, rfl⟩
  obtain ⟨u3, k3⟩ : ∃ s, Fw.sv (V1 ++ V2 ++ V3) = s := ⟨_, rfl⟩
  obtain ⟨u4, k4⟩ : ∃ s, Fw.sv (V1 ++ V2 ++ V3 ++ V4) = s := ⟨_, rfl⟩
  obtain ⟨u5, k5⟩ : ∃ s, Fw.sv (closeL (V1 ++ V2 ++ V3 ++ V4)) = s := ⟨_, rfl⟩
  obtain ⟨u6, k6⟩ : ∃ s, Fw.sv ([72] ++ closeL (V1 ++ V2 ++ V3 ++ V4)) = s := ⟨_, rfl⟩
  have add2 : ∀ w, (Op.stringOp .add t1 t2).run Tryd.prog w = .ok (.string u2) w := fun w => by rw [← h1, ← h2, ← k2]; exact Fw.sv_add _ _ (by omega) w
  have add3 : ∀ w, (Op.stringOp .add u2 t3).run Tryd.prog w = .ok (.string u3) w := fun w => by rw [← h3, ← k2, ← k3]; exact Fw.sv_add _ _ (by rw [List.length_append]; omega) w
  have add4 : ∀ w, (Op.stringOp .add u3 t4).run Tryd.prog w = .ok (.string u4) w := fun w => by rw [← h4, ← k3, ← k4]; exact Fw.sv_add _ _ (by rw [List.length_append, List.length_append]; omega) w
  have add6 : ∀ w, (Op.stringOp .add ⟨#[72]⟩ u5).run Tryd.prog w = .ok (.string u6) w := fun w => by rw [← k5, ← k6]; exact Fw.sv_add [72] _ (by rw [close_len]; simp only [List.length_append, List.length_cons, List.length_nil]; omega) w
  have H6 := Lib.hid (fun W => closed_x (V1 ++ V2 ++ V3 ++ V4) (by simp only [List.length_append]; omega) (fun x hx => by
    simp only [List.mem_append] at hx
    rcases hx with ((h | h) | h) | h
    · exact y1 x h
    · exact y2 x h
    · exact y3 x h
    · exact y4 x h) u4 u5 k4 k5 W)
  have H7 := Lib.hid (fun W => pad_x _ (by rw [List.length_append, close_len]; simp only [List.length_append, List.length_cons, List.length_nil]; omega) u6 t k6 et W)
  rw [h1] at H1
  rw [h2] at H2
  rw [h3] at H3
  rw [h4] at H5
  clear hs ht hS ha hn hm hb l1 l2 l3 l4 y1 y2 y3 y4 hv1 hv2 hv3 hv4 et h1 h2 h3 h4 k2 k3 k4 k5 k6
  go_enter Tryd.func26, Tryd.ntmps26
  go_wp2_with fail
  refine H1.out.mono ?_
  rintro e w1 ⟨rfl, hb1⟩
  have hb1 := Lib.hid hb1
  go_wp2_with fail
  refine (H2.out w1).mono ?_
  rintro e w2 ⟨rfl, hb2⟩
  have hb2 := Lib.hid hb2
  go_wp2_with fail
  refine (H3.out w2).mono ?_
  rintro e w3 ⟨rfl, hb3⟩
  have hb3 := Lib.hid hb3
  go_wp2_with fail
  refine (H4.out w3).mono ?_
  rintro e w4 ⟨rfl, rfl⟩
  go_wp2_with fail
  refine (H5.out w3).mono ?_
  rintro e w5 ⟨rfl, hb5⟩
  have hb5 := Lib.hid hb5
  go_wp2_with fail
  refine (H6.out w5).mono ?_
  rintro e w6 ⟨rfl, hb6⟩
  go_wp2_with fail
  refine (H7.out w6).mono ?_
  rintro e w7 ⟨rfl, hb7⟩
  go_wp2_with fail
  go_ret
  have c2 := hb1.out.trans (hb2.out.mono hb1.out.size)
  have c3 := c2.trans (hb3.out.mono c2.size)
  have c5 := c3.trans (hb5.out.mono c3.size)
  have c6 := c5.trans (hb6.out.mono c5.size)
  exact ⟨rfl, Lib.hid (c6.trans (hb7.out.mono c6.size))⟩
theorem txt_ne {a b : ByteArray} (h : ¬ a = b) : (a.toList == b.toList) = false := by
  have := Fc.str_ne h
  simpa using this
/-- the age that a sector tells, if it is a head -/
def ageT (A : List Nat) : Int := if A = padL (headL (ageOf A)) then ageOf A else 0
theorem head_two (n : Int) : (padL (headL n)).take 2 = [76, 71] := by simp [padL, headL, closeL]
theorem ageT_other {A : List Nat} (h : A.take 2 ≠ [76, 71]) : ageT A = 0 := if_neg fun e => h (by rw [e]; exact head_two _)
theorem ageOf_in (A : List Nat) (hb : ∀ b ∈ A, b < 256) : 0 ≤ ageOf A ∧ ageOf A ≤ 4611686018427387904 ∧ ((Fw.rdB 1 4611686018427387904 (A.drop 2)).2.2 ≠ 0 → ageOf A = 0) ∧ ((Fw.rdB 1 4611686018427387904 (A.drop 2)).2.2 = 0 → 1 ≤ ageOf A) := by
  obtain ⟨n, z, er, hr⟩ : ∃ n z er, Fw.rd 0 0 (A.drop 2) = (n, z, er) := ⟨_, _, _, rfl⟩
  have hD : ageOf A = (Fw.rdB 1 4611686018427387904 (A.drop 2)).1 := rfl
  by_cases he : er = 0
  · subst he
    by_cases ho : n < 1 ∨ 4611686018427387904 < n
    · rw [hD, Fw.rdB_out _ _ hr ho]
      exact ⟨Int.le_refl 0, (by decide : (0 : Int) ≤ 4611686018427387904), fun _ => rfl, fun h => by cases h⟩
    · rw [hD, Fw.rdB_in _ _ hr ho]
      exact ⟨by show 0 ≤ n; omega, by show n ≤ _; omega, fun h => absurd rfl h, fun _ => by show 1 ≤ n; omega⟩
  · have hz := Fw.rd_err (A.drop 2) 0 0 (by rw [hr]; exact he)
    rw [hr] at hz
    obtain rfl : n = 0 := hz.1
    obtain rfl : z = 0 := hz.2
    rw [hD, Fw.rdB_bad _ _ hr he]
    exact ⟨Int.le_refl 0, (by decide : (0 : Int) ≤ 4611686018427387904), fun _ => rfl, fun h => absurd h he⟩
theorem ageT_in (A : List Nat) (hb : ∀ b ∈ A, b < 256) : 0 ≤ ageT A ∧ ageT A ≤ 4611686018427387904 := by
  have h := ageOf_in A hb
  unfold ageT
  split <;> omega
theorem stAt_two (As : Nat → List Nat) (h0 : ∀ b ∈ As 0, b < 256) (h1 : ∀ b ∈ As 1, b < 256) : (stAt As 2).1 = max (ageT (As 0)) (ageT (As 1)) := by
  have a0 := ageOf_in _ h0
  have a1 := ageOf_in _ h1
  have key : ∀ (p q : Int) (P Q : Prop) [Decidable P] [Decidable Q] (x y : Int), 0 ≤ p → 0 ≤ q → (if (if 0 < p ∧ P then (p, x) else ((0 : Int), (0 : Int))).1 < q ∧ Q then (q, y) else if 0 < p ∧ P then (p, x) else (0, 0)).1 = max (if P then p else 0) (if Q then q else 0) := by
    intro p q P Q _ _ x y hp hq
    by_cases h1 : P
    · by_cases h2 : Q
      · by_cases h3 : 0 < p
        · by_cases h4 : p < q
          · simp [h1, h2, h3, h4]; omega
          · simp [h1, h2, h3, h4]; omega
        · by_cases h4 : 0 < q
          · simp [h1, h2, h3, h4]; omega
          · simp [h1, h2, h3, h4]; omega
      · by_cases h3 : 0 < p
        · simp [h1, h2, h3]; omega
        · simp [h1, h2, h3]; omega
    · by_cases h2 : Q
      · by_cases h4 : 0 < q
        · simp [h1, h2, h4]; omega
        · simp [h1, h2, h4]; omega
      · simp [h1, h2]
  exact key _ _ _ _ _ _ a0.1 a1.1
set_option maxHeartbeats 1000000 in
theorem ageOf_x (A : List Nat) (hA : A.length = 512) (hb : ∀ b ∈ A, b < 256) (s : ByteArray) (hs : Fw.sv A = s) (w : World) :
    Calls Tryd.prog 40 #[.string s] w fun e w' => e = .returned (.int .i64 (ageT A)) ∧ Hid (Below w.heap.size w w') := by
  have hsz : s.size = 512 := by rw [← hs, Fw.sv_size, hA]
  obtain ⟨u, hu⟩ : ∃ u, Fw.sv (A.take 2) = u := ⟨_, rfl⟩
  have hsl : ∀ W, (Instr.slice 9 (.string s) none (some (.int .i64 2)) none).run Tryd.prog W = .ok (.string u) W := fun W => by
    have e1 : s.extract 0 2 = u := by rw [← hs, ← hu]; exact Fc.sv_take A 2
    rw [run_slice_string_to_if W 9 s .i64 2 Tryd.underlying9, if_pos (by omega), ← e1]
    rfl
  obtain ⟨v, hv⟩ : ∃ v, Fw.sv (A.drop 2) = v := ⟨_, rfl⟩
  have hsl2 : ∀ W, (Instr.slice 9 (.string s) (some (.int .i64 2)) none none).run Tryd.prog W = .ok (.string v) W := fun W => by
    have e1 : s.extract 2 s.size = v := by rw [← hs, ← hv]; exact Fc.sv_drop A 2
    rw [run_slice_string_from_if W 9 s .i64 2 Tryd.underlying9, if_pos (by omega), ← e1]
    rfl
  by_cases hm : A.take 2 = [76, 71]
  · have hul : u = ⟨#[76, 71]⟩ := by rw [← hu, hm]; rfl
    subst hul
    have hbv : Fw.bytesOf v = A.drop 2 := by rw [← hv]; exact bytesOf_sv _ fun b h => hb b (List.mem_of_mem_drop h)
    have hvs : v.size ≤ 1000000 := by rw [← hv, Fw.sv_size, List.length_drop]; omega
    have HN : Hid (∀ W, Hid (Fw.RBox W w.heap.size v 0) → Calls Tryd.prog 41 #[.pointer (some ⟨w.heap.size, 0, none⟩), .int .i64 1, .int .i64 4611686018427387904] W fun e w' => e = .returned (.int .i64 (ageOf A)) ∧ (∃ r, Fw.RBox w' w.heap.size r (Fw.rdB 1 4611686018427387904 (A.drop 2)).2.2) ∧ Fw.Only (· = w.heap.size) W w') := Lib.hid fun W hR => by
      refine (Fw.refInNum_any w.heap.size v 1 4611686018427387904 hvs W hR).mono ?_
      rintro e w' ⟨rfl, h1, h2⟩
      rw [hbv] at h1 ⊢
      exact ⟨rfl, ⟨_, h1⟩, h2⟩
    have hin := ageOf_in A hb
    obtain ⟨er, her⟩ : ∃ er, (Fw.rdB 1 4611686018427387904 (A.drop 2)).2.2 = er := ⟨_, rfl⟩
    obtain ⟨t, ht⟩ : ∃ t, Fc.sv (padL (headL (ageOf A))) = t := ⟨_, rfl⟩
    have HD := Lib.hid (fun W => refHead_x (ageOf A) ⟨by omega, by omega⟩ t ht W)
    have HT : Hid (s = t ↔ A = padL (headL (ageOf A))) := Lib.hid ⟨fun e => Fc.sv_inj hb (padL_byte (head_byte _)) (by show Fw.sv A = _; rw [hs, ht]; exact e), fun e => by rw [← hs, ← ht, ← e]; rfl⟩
    have HE : Hid ((er ≠ 0 → ageT A = 0) ∧ (s = t → ageT A = ageOf A) ∧ (s ≠ t → ageT A = 0)) := Lib.hid ⟨fun h => by
      have := hin.2.2.1 (by rw [her]; exact h)
      unfold ageT
      split <;> omega, fun h => if_pos (HT.out.1 h), fun h => if_neg fun e => h (HT.out.2 e)⟩
    rw [her] at HN
    obtain ⟨n, hn⟩ : ∃ n, ageOf A = n := ⟨_, rfl⟩
    rw [hn] at HN HD HE
    obtain ⟨r, hr⟩ : ∃ r, ageT A = r := ⟨_, rfl⟩
    rw [hr] at HE
    rw [hr]
    clear hin her ht hn hr hbv hvs hu hv hm hs hb hA HT
    go_enter Tryd.func40, Tryd.ntmps40
    go_wp2_with fail
    generalize h1 : World.alloc w _ = w1
    have HB1 : Hid (Below w.heap.size w w1) := Lib.hid (by rw [← h1]; exact (Below.refl _ _).alloc (Nat.le_refl _) _)
    have HR1 : Hid (Fw.RBox w1 w.heap.size v 0) := Lib.hid (by rw [← h1]; exact al_new _ _ _ rfl)
    clear h1
    refine (HN.out w1 HR1).mono ?_
    rintro e w2 ⟨rfl, ⟨r2, hR2⟩, hO2⟩
    have HB2 : Hid (Below w.heap.size w w2) := Lib.hid (HB1.out.trans (hO2.below (fun k e => e ▸ Nat.le_refl _) HB1.out.size))
    have x1 : w2.cell? ⟨w.heap.size, 1, none⟩ = some (.int .i64 er) := Fw.box_cell1 hR2
    clear hR2 hO2 HB1 HR1
    by_cases her : er = 0
    · subst her
      go_wp2_with fail
      refine (HD.out w2).mono ?_
      rintro e w3 ⟨rfl, HB3⟩
      have HB4 := Lib.hid (HB2.out.trans (HB3.out.mono HB2.out.size))
      by_cases hst : s = t
      · have hre := HE.out.2.1 hst
        subst hre
        clear HE
        subst hst
        go_wp2_with fail
        go_ret
        exact ⟨rfl, HB4⟩
      · have hre := HE.out.2.2 hst
        subst hre
        have hbe : (s.toList == t.toList) = false := txt_ne hst
        clear HE
        go_wp2_with fail
        all_goals
          go_ret
          exact ⟨rfl, HB4⟩
    · have hre := HE.out.1 her
      subst hre
      clear HE
      go_wp2_with fail
      all_goals
        go_ret
        exact ⟨rfl, HB2⟩
  · have hne : ¬ u = (⟨#[76, 71]⟩ : ByteArray) := fun e => hm (by
      have h2 : Fc.sv (A.take 2) = Fc.sv [76, 71] := by show Fw.sv _ = _; rw [hu, e]; rfl
      exact Fc.sv_inj (fun x hx => hb x (List.mem_of_mem_take hx)) (by decide) h2)
    rw [ageT_other hm]
    have hbe : (u.toList == [76, 71]) = false := by
      have h2 := txt_ne hne
      rwa [ByteArray.toList_eq (⟨#[76, 71]⟩ : ByteArray)] at h2
    clear hm hu hv hs hb hA hsl2
    go_enter Tryd.func40, Tryd.ntmps40
    go_wp2_with fail
    go_ret
    exact ⟨rfl, Lib.hid (Below.refl _ _)⟩
end Go.Proofs.YtfhgdcljhncjmaaDoor
