/- Texts that look like sectors; a disk that is armed; bytes of a text. -/
import Derived.Test.YtfhgdcljhncjmaaDoorWalLF
namespace Go.Proofs.YtfhgdcljhncjmaaDoor
open Go.ChangeShapes Go.WideShapes Go.ChangeAt Go.RowKit
set_option linter.unusedVariables false
set_option maxRecDepth 20000

theorem bw_type (w : World) (t : TypeId) (s : ByteArray) : ∃ cs fr, (Lib.bytesWorld w t s).heap[w.heap.size]? = some (.cells cs t fr) := by
  refine ⟨Lib.bytesCells w t s, ((Lib.bytesCells w t s).size, (Lib.bytesCells w t s).size + 1), ?_⟩
  simp [Lib.bytesWorld, World.freeze, World.alloc, World.drew, -World.alloc_eq, -World.drew_eq, Array.getElem_modify]
theorem row_text (B : Nat) (w : World) (s : ByteArray) : Row8 B (Lib.bytesWorld w 5 s) (some ⟨w.heap.size, 0, none⟩) (Fw.bytesOf s) := fun hp => by
  obtain ⟨h1, _, _⟩ := Fk.read_world w 5 s
  refine ⟨w.heap.size, 0, rfl, fun i hi => ?_, .inl (bw_type w _ s)⟩
  rw [Fw.bytesOf_len] at hi
  rw [Nat.zero_add, h1 i hi]
  have hi2 : i < s.data.toList.length := by simpa using hi
  simp [Fw.bytesOf, List.getD, hi]
theorem sv_size' (L : List Nat) : (Fc.sv L).size = L.length := Fw.sv_size L
theorem num_size (n : Int) (h1 : -9223372036854775808 ≤ n) (h2 : n ≤ 9223372036854775807) (w : World) :
    Calls Tryd.prog 50 #[.int .i64 n] w fun e w' => ∃ t : ByteArray, e = .returned (.string t) ∧ t.size ≤ 10 ∧ Hid (Below w.heap.size w w') := by
  refine (Fw.refNum_any n h1 h2 w).mono ?_
  rintro e w' ⟨rfl, h⟩
  exact ⟨_, rfl, by rw [Fw.sv_size]; exact Fw.vb_ten _ (Fw.zz_lt n h1 h2), Lib.hid h⟩
theorem closed_any (s : ByteArray) (hs : s.size ≤ 1000) (w : World) :
    Calls Tryd.prog 49 #[.string s] w fun e w' => ∃ t : ByteArray, e = .returned (.string t) ∧ t.size = s.size + 4 ∧ Hid (Below w.heap.size w w') := by
  have H1 := Lib.hid (Fc.refSum_any s (by omega) w)
  obtain ⟨S, hS⟩ : ∃ S, Fc.crcOf (s.data.toList.map fun b => b.toNat) = S := ⟨_, rfl⟩
  have hlt := crc_lt (s.data.toList.map fun b => b.toNat)
  rw [hS] at H1 hlt
  have H2 := Lib.hid (Fc.four_any S hlt w)
  obtain ⟨u, hu⟩ : ∃ u, Fc.sv (Fc.four S) = u := ⟨_, rfl⟩
  have hus : u.size = 4 := by rw [← hu, sv_size']; rfl
  rw [hu] at H2
  have HU := Lib.hid hus
  have hadd := fun w => run_string_add_sum (P := Tryd.prog) w s u (by omega)
  clear hS hu hus
  go_enter Tryd.func49, Tryd.ntmps49
  go_wp2_with fail
  refine H1.out.mono ?_
  rintro e w1 ⟨rfl, rfl⟩
  go_wp2_with fail
  refine H2.out.mono ?_
  rintro e w2 ⟨rfl, hb⟩
  have HB := Lib.hid hb
  clear hb
  go_wp2_with fail
  go_ret
  exact ⟨_, rfl, by rw [ByteArray.size_append, HU.out], HB⟩
theorem pad_any (s : ByteArray) (hs : s.size ≤ 512) (w : World) :
    Calls Tryd.prog 42 #[.string s] w fun e w' => ∃ t : ByteArray, e = .returned (.string t) ∧ t.size = 512 ∧ Hid (Below w.heap.size w w') := by
  obtain ⟨m, hm⟩ : ∃ m, 512 - s.size = m := ⟨_, rfl⟩
  have hw : IntKind.i64.wrap (512 - (s.size : Int)) = (m : Int) := by rw [IntKind.wrap_i64]; omega
  have hmk := fun W => Fc.mk_bytes m (by omega) W
  have hA : Below w.heap.size w (w.alloc (.cells (Fc.cells (List.replicate m 0)).toArray 5)) := (Below.refl _ w).alloc (Nat.le_refl _) _
  obtain ⟨u, hu⟩ : ∃ u, Fc.sv (List.replicate m 0) = u := ⟨_, rfl⟩
  have hus : u.size = m := by rw [← hu, sv_size']; simp
  have hcv : (convert 34 9 (.slice (some ⟨w.heap.size, 0, none⟩) m m)).run Tryd.prog (w.alloc (.cells (Fc.cells (List.replicate m 0)).toArray 5)) = .ok (.string u) (w.alloc (.cells (Fc.cells (List.replicate m 0)).toArray 5)) := by
    have h := Fc.src_conv0 ((row_zeros 0 m w).src) m (fun e => by cases e)
    rw [hu, List.length_replicate] at h
    exact h
  have hadd := fun w => run_string_add_sum (P := Tryd.prog) w s u (by omega)
  have HU : Hid (s.size + u.size = 512) := Lib.hid (by omega)
  have HA := Lib.hid hA
  clear hu hus hm hA
  go_enter Tryd.func42, Tryd.ntmps42
  go_wp2_with fail
  go_ret
  exact ⟨_, rfl, by rw [ByteArray.size_append]; exact HU.out, HA⟩
theorem headT_any (n : Int) (h1 : -9223372036854775808 ≤ n) (h2 : n ≤ 9223372036854775807) (w : World) :
    Calls Tryd.prog 25 #[.int .i64 n] w fun e w' => ∃ t : ByteArray, e = .returned (.string t) ∧ t.size = 512 ∧ Hid (Below w.heap.size w w') := by
  have H1 := Lib.hid (num_size n h1 h2 w)
  go_enter Tryd.func25, Tryd.ntmps25
  go_wp2_with fail
  refine H1.out.mono ?_
  rintro e w1 ⟨t1, rfl, hs1, hb1⟩
  have hadd := fun w => run_string_add_sum (P := Tryd.prog) w ⟨#[76, 71]⟩ t1 (by have : (⟨#[76, 71]⟩ : ByteArray).size = 2 := rfl; omega)
  have hsz : ((⟨#[76, 71]⟩ : ByteArray) ++ t1).size ≤ 12 := by rw [ByteArray.size_append]; have : (⟨#[76, 71]⟩ : ByteArray).size = 2 := rfl; omega
  obtain ⟨u, hu⟩ : ∃ u, (⟨#[76, 71]⟩ : ByteArray) ++ t1 = u := ⟨_, rfl⟩
  rw [hu] at hadd hsz
  have H2 := Lib.hid (closed_any u (by omega) w1)
  clear hu
  go_wp2_with fail
  refine H2.out.mono ?_
  rintro e w2 ⟨t2, rfl, hs2, hb2⟩
  have H3 := Lib.hid (pad_any t2 (by omega) w2)
  go_wp2_with fail
  refine H3.out.mono ?_
  rintro e w3 ⟨t3, rfl, hs3, hb3⟩
  go_wp2_with fail
  go_ret
  exact ⟨t3, rfl, hs3, Lib.hid ((hb1.out.trans (hb2.out.mono hb1.out.size)).trans (hb3.out.mono (Nat.le_trans hb1.out.size hb2.out.size)))⟩
set_option maxHeartbeats 1000000 in
theorem firstT_any (a n : Int) (ha : Fw.IntOk a) (hn : Fw.IntOk n) (s : ByteArray) (hs : s.size ≤ 1000) (w : World) :
    Calls Tryd.prog 26 #[.int .i64 a, .int .i64 n, .string s] w fun e w' => ∃ t : ByteArray, e = .returned (.string t) ∧ t.size = 512 ∧ Hid (Below w.heap.size w w') := by
  have H1 := Lib.hid (num_size a ha.1 ha.2 w)
  have H2 := Lib.hid (fun W => num_size n hn.1 hn.2 W)
  have H3 := Lib.hid (fun W => num_size (s.size : Int) (by omega) (by omega) W)
  have H4 := Lib.hid (fun W => Fc.refSum_any s (by omega) W)
  obtain ⟨S, hS⟩ : ∃ S, Fc.crcOf (s.data.toList.map fun b => b.toNat) = S := ⟨_, rfl⟩
  have hlt := crc_lt (s.data.toList.map fun b => b.toNat)
  rw [hS] at H4 hlt
  have H5 := Lib.hid (fun W => num_size (S : Int) (by omega) (by omega) W)
  have hwc : IntKind.i64.wrap ((S : Nat) : Int) = (S : Int) := by rw [IntKind.wrap_i64]; omega
  clear hS ha hn
  go_enter Tryd.func26, Tryd.ntmps26
  go_wp2_with fail
  refine H1.out.mono ?_
  rintro e w1 ⟨t1, rfl, hs1, hb1⟩
  go_wp2_with fail
  refine (H2.out w1).mono ?_
  rintro e w2 ⟨t2, rfl, hs2, hb2⟩
  have hadd := fun w => run_string_add_sum (P := Tryd.prog) w t1 t2 (by omega)
  have hz1 : (t1 ++ t2).size ≤ 20 := by rw [ByteArray.size_append]; omega
  obtain ⟨u1, hu1⟩ : ∃ u, t1 ++ t2 = u := ⟨_, rfl⟩
  rw [hu1] at hadd hz1
  clear hu1
  go_wp2_with fail
  refine (H3.out w2).mono ?_
  rintro e w3 ⟨t3, rfl, hs3, hb3⟩
  have hadd2 := fun w => run_string_add_sum (P := Tryd.prog) w u1 t3 (by omega)
  have hz2 : (u1 ++ t3).size ≤ 30 := by rw [ByteArray.size_append]; omega
  obtain ⟨u2, hu2⟩ : ∃ u, u1 ++ t3 = u := ⟨_, rfl⟩
  rw [hu2] at hadd2 hz2
  clear hu2
  go_wp2_with fail
  refine (H4.out w3).mono ?_
  rintro e w4 ⟨rfl, rfl⟩
  go_wp2_with fail
  refine (H5.out w3).mono ?_
  rintro e w5 ⟨t5, rfl, hs5, hb5⟩
  have hadd3 := fun w => run_string_add_sum (P := Tryd.prog) w u2 t5 (by omega)
  have hz3 : (u2 ++ t5).size ≤ 40 := by rw [ByteArray.size_append]; omega
  obtain ⟨u3, hu3⟩ : ∃ u, u2 ++ t5 = u := ⟨_, rfl⟩
  rw [hu3] at hadd3 hz3
  clear hu3
  have H6 := Lib.hid (closed_any u3 (by omega) w5)
  go_wp2_with fail
  refine H6.out.mono ?_
  rintro e w6 ⟨t6, rfl, hs6, hb6⟩
  have hadd4 := fun w => run_string_add_sum (P := Tryd.prog) w ⟨#[72]⟩ t6 (by have : (⟨#[72]⟩ : ByteArray).size = 1 := rfl; omega)
  have hz4 : ((⟨#[72]⟩ : ByteArray) ++ t6).size ≤ 60 := by rw [ByteArray.size_append]; have : (⟨#[72]⟩ : ByteArray).size = 1 := rfl; omega
  obtain ⟨u4, hu4⟩ : ∃ u, (⟨#[72]⟩ : ByteArray) ++ t6 = u := ⟨_, rfl⟩
  rw [hu4] at hadd4 hz4
  clear hu4
  have H7 := Lib.hid (pad_any u4 (by omega) w6)
  go_wp2_with fail
  refine H7.out.mono ?_
  rintro e w7 ⟨t7, rfl, hs7, hb7⟩
  go_wp2_with fail
  go_ret
  have c2 := hb1.out.trans (hb2.out.mono hb1.out.size)
  have c3 := c2.trans (hb3.out.mono c2.size)
  have c5 := c3.trans (hb5.out.mono c3.size)
  have c6 := c5.trans (hb6.out.mono c5.size)
  exact ⟨t7, rfl, hs7, Lib.hid (c6.trans (hb7.out.mono c6.size))⟩
/-- the power will go -/
theorem da_arm {B : Nat} {w : World} {g L k : Nat} {s : Dst} (h : Da B w g L s k) (n : Nat) (hn : n ≤ 1000) :
    Calls Tryd.prog 29 #[.pointer (some ⟨g, 0, none⟩), .int .i64 (n : Int)] w fun e w' => e = .returned (.tuple #[]) ∧ Hid (Da B w' g L { s with ar := true, le := n } k) ∧ Hid (Below B w w') ∧ Hid (KeepT g w w') := by
  have hty := da_type h
  obtain ⟨gn, gl, cn, cl, vw, st, h1, h3, h4, h5, h6, h7⟩ := h
  refine (Fk.arm_any g _ _ vw st s.ar (s.le : Int) s.off w (n : Int) (Lib.hid h1.head)).mono ?_
  rintro e w' ⟨rfl, a1, a2⟩
  have e0 : (if (n : Int) < 0 then (0 : Int) else (n : Int)) = (n : Int) := if_neg (by omega)
  rw [e0] at a1
  obtain ⟨b1, b2⟩ := Fk.dk_head h1 a1 a2
  refine ⟨rfl, Lib.hid ⟨gn, gl, cn, cl, vw, st, b1, h3, h4, h5, h6, hn⟩, Lib.hid b2, Lib.hid (KeepT.of_only a2 ?_ ?_)⟩
  · rintro q rfl
    obtain ⟨cs, fr, x⟩ := hty
    exact ⟨cs, _, fr, x, .inl rfl⟩
  · intro q cs fr hq hf
    obtain ⟨f1, f2, f3⟩ := foe_dk h1 hf
    refine ⟨?_, foe_mk b1 f1 f2 f3⟩
    rintro rfl
    obtain ⟨cs', fr', x⟩ := hty
    rw [x] at hq
    exact absurd hq (by simp)
end Go.Proofs.YtfhgdcljhncjmaaDoor
