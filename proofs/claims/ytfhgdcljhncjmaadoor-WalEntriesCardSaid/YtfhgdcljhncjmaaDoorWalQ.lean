/- A record's first sector. -/
import Derived.Test.YtfhgdcljhncjmaaDoorWalP
namespace Go.Proofs.YtfhgdcljhncjmaaDoor
open Go.ChangeShapes Go.WideShapes Go.ChangeAt Go.RowKit
set_option linter.unusedVariables false
set_option maxRecDepth 20000

def NumAt (n : Int) (V : List Nat) (m : Nat) : Prop := ∀ W : World, Calls Tryd.prog 59 #[.int .i64 n] W fun e w' => ∃ g cap, e = .returned (.slice (some ⟨g, 0, none⟩) m cap) ∧ W.heap.size ≤ g ∧ Fc.Src w' (some ⟨g, 0, none⟩) V ∧ Below W.heap.size W w'
theorem num_pack (n : Int) (h1 : -9223372036854775808 ≤ n) (h2 : n ≤ 9223372036854775807) : ∃ (V : List Nat) (m : Nat), Fw.vb (Fw.zz n) = V ∧ V.length = m ∧ 1 ≤ m ∧ m ≤ 10 ∧ (∀ b ∈ V, b < 256) ∧ Hid (NumAt n V m) :=
  ⟨_, _, rfl, rfl, Fw.vb_pos _, Fw.vb_ten _ (Fw.zz_lt n h1 h2), Fw.vb_byte _, Lib.hid fun W => num_src n h1 h2 W _ _ rfl rfl⟩
theorem concat_four (W : World) (g : Nat) (hg : g = W.heap.size) (g1 g2 g3 g4 c1 c2 c3 c4 m1 m2 m3 m4 : Nat) (V1 V2 V3 V4 : List Nat) (h1 : V1.length = m1) (h2 : V2.length = m2) (h3 : V3.length = m3) (h4 : V4.length = m4) (hp : 1 ≤ m1) (hm : m1 ≤ 10 ∧ m2 ≤ 10 ∧ m3 ≤ 10 ∧ m4 ≤ 10)
    (s1 : Hid (Fc.Src W (some ⟨g1, 0, none⟩) V1)) (s2 : Hid (Fc.Src W (some ⟨g2, 0, none⟩) V2)) (s3 : Hid (Fc.Src W (some ⟨g3, 0, none⟩) V3)) (s4 : Hid (Fc.Src W (some ⟨g4, 0, none⟩) V4)) :
    Calls Tryd.prog 76 #[.slice (some ⟨g, 0, none⟩) 4 4] (W.alloc (.cells #[.slice (some ⟨g1, 0, none⟩) m1 c1, .slice (some ⟨g2, 0, none⟩) m2 c2, .slice (some ⟨g3, 0, none⟩) m3 c3, .slice (some ⟨g4, 0, none⟩) m4 c4] 34)) fun e w' => ∃ g c, e = .returned (.slice (some ⟨g, 0, none⟩) (m1 + m2 + m3 + m4) c) ∧ Hid (W.heap.size ≤ g) ∧ Hid (Fc.Src w' (some ⟨g, 0, none⟩) (V1 ++ V2 ++ V3 ++ V4)) ∧ Hid (Below W.heap.size W w') := by
  subst hg h1 h2 h3 h4
  have hb : Below W.heap.size W (W.alloc (.cells #[.slice (some ⟨g1, 0, none⟩) V1.length c1, .slice (some ⟨g2, 0, none⟩) V2.length c2, .slice (some ⟨g3, 0, none⟩) V3.length c3, .slice (some ⟨g4, 0, none⟩) V4.length c4] 34)) := (Below.refl _ W).alloc (Nat.le_refl _) _
  have e : Fc.all [(some ⟨g1, 0, none⟩, c1, V1), (some ⟨g2, 0, none⟩, c2, V2), (some ⟨g3, 0, none⟩, c3, V3), (some ⟨g4, 0, none⟩, c4, V4)] = V1 ++ V2 ++ V3 ++ V4 := by simp [Fc.all]
  have el : lens [(some ⟨g1, 0, none⟩, c1, V1), (some ⟨g2, 0, none⟩, c2, V2), (some ⟨g3, 0, none⟩, c3, V3), (some ⟨g4, 0, none⟩, c4, V4)] = V1.length + V2.length + V3.length + V4.length := by unfold lens; rw [e]; simp; omega
  have h := concat_any (some ⟨W.heap.size, 0, none⟩) 4 [(some ⟨g1, 0, none⟩, c1, V1), (some ⟨g2, 0, none⟩, c2, V2), (some ⟨g3, 0, none⟩, c3, V3), (some ⟨g4, 0, none⟩, c4, V4)] (show 4 ≤ 10 by decide) (by rw [el]; omega) (by rw [el]; omega) (W.alloc (.cells #[.slice (some ⟨g1, 0, none⟩) V1.length c1, .slice (some ⟨g2, 0, none⟩) V2.length c2, .slice (some ⟨g3, 0, none⟩) V3.length c3, .slice (some ⟨g4, 0, none⟩) V4.length c4] 34)) (Lib.hid (fun i p hp => by
    match i, hp with
    | 0, hp =>
      simp at hp; subst hp
      exact ⟨W.heap.size, 0, rfl, by simp [World.cell?, Fc.heap_alloc], Fc.src_later s1.out hb, .inr ⟨_, rfl⟩⟩
    | 1, hp =>
      simp at hp; subst hp
      exact ⟨W.heap.size, 0, rfl, by simp [World.cell?, Fc.heap_alloc], Fc.src_later s2.out hb, .inr ⟨_, rfl⟩⟩
    | 2, hp =>
      simp at hp; subst hp
      exact ⟨W.heap.size, 0, rfl, by simp [World.cell?, Fc.heap_alloc], Fc.src_later s3.out hb, .inr ⟨_, rfl⟩⟩
    | 3, hp =>
      simp at hp; subst hp
      exact ⟨W.heap.size, 0, rfl, by simp [World.cell?, Fc.heap_alloc], Fc.src_later s4.out hb, .inr ⟨_, rfl⟩⟩
    | n + 4, hp => simp at hp)) (Lib.hid (fun p hp => by
      simp at hp
      rcases hp with rfl | rfl | rfl | rfl <;> exact ⟨_, rfl⟩))
  rw [e, el] at h
  refine h.mono ?_
  rintro e w' ⟨g, c, rfl, a1, a2, a3⟩
  exact ⟨g, c, rfl, Lib.hid (Nat.le_trans hb.size a1.out), a2, Lib.hid (hb.trans (a3.out.mono hb.size))⟩
set_option maxHeartbeats 1000000 in
theorem firstS_any (age number count sum : Int) (b1 : -9223372036854775808 ≤ age ∧ age ≤ 9223372036854775807) (b2 : -9223372036854775808 ≤ number ∧ number ≤ 9223372036854775807) (b3 : -9223372036854775808 ≤ count ∧ count ≤ 9223372036854775807) (b4 : -9223372036854775808 ≤ sum ∧ sum ≤ 9223372036854775807) (w : World) (ht : Hid (Fc.Tab w)) :
    Calls Tryd.prog 56 #[.int .i64 age, .int .i64 number, .int .i64 count, .int .i64 sum] w fun e w' => ∃ g, e = .returned (.slice (some ⟨g, 0, none⟩) 512 512) ∧ w.heap.size ≤ g ∧ SecRow w' g (firstL age number count sum) ∧ Below w.heap.size w w' ∧ g < w'.heap.size := by
  have kc := fun (w : World) (C : Array Value) (n c : Nat) => Lib.run_convert_bytes_const (P := Tryd.prog) w 34 5 C n c Tryd.underlying34 Tryd.underlying5
  obtain ⟨V1, m1, v1, l1, p1, q1, y1, N1⟩ := num_pack age b1.1 b1.2
  obtain ⟨V2, m2, v2, l2, p2, q2, y2, N2⟩ := num_pack number b2.1 b2.2
  obtain ⟨V3, m3, v3, l3, p3, q3, y3, N3⟩ := num_pack count b3.1 b3.2
  obtain ⟨V4, m4, v4, l4, p4, q4, y4, N4⟩ := num_pack sum b4.1 b4.2
  have e0 : firstL age number count sum = [72] ++ closeL (V1 ++ V2 ++ V3 ++ V4) := by unfold firstL; rw [v1, v2, v3, v4]
  rw [e0]
  obtain ⟨T, hT⟩ : ∃ T, V1 ++ V2 ++ V3 ++ V4 = T := ⟨_, rfl⟩
  have hl : T.length = m1 + m2 + m3 + m4 := by rw [← hT]; simp [l1, l2, l3, l4]; omega
  have hTb : ∀ b ∈ T, b < 256 := by
    intro b hb
    rw [← hT] at hb
    simp only [List.mem_append] at hb
    rcases hb with ((h | h) | h) | h
    · exact y1 b h
    · exact y2 b h
    · exact y3 b h
    · exact y4 b h
  have HF := Lib.hid (fun (W : World) (g : Nat) (hg : g = W.heap.size) (g1 g2 g3 g4 c1 c2 c3 c4 : Nat) s1 s2 s3 s4 => concat_four W g hg g1 g2 g3 g4 c1 c2 c3 c4 m1 m2 m3 m4 V1 V2 V3 V4 l1 l2 l3 l4 p1 ⟨q1, q2, q3, q4⟩ s1 s2 s3 s4)
  rw [hT] at HF ⊢
  have HC := Lib.hid (fun (W : World) (a : Option Addr) (c : Nat) (hW : Hid (Fc.Tab W)) (hsr : Hid (Fc.Src W a T)) => Fc.close_m a c (m1 + m2 + m3 + m4) T hl (by omega) hTb W hW hsr)
  have HO := Lib.hid (fun (W : World) (g : Nat) (hg : g = W.heap.size) (ga gb ca cb : Nat) sA sB => sector_two W g hg (some ⟨ga, 0, none⟩) (some ⟨gb, 0, none⟩) ca cb 1 (m1 + m2 + m3 + m4 + 4) [72] (closeL T) rfl (by unfold closeL; rw [List.length_append, hl]; rfl) (by omega) sA sB (.inr ⟨_, rfl⟩) (.inr ⟨_, rfl⟩))
  clear v1 v2 v3 v4 l1 l2 l3 l4 y1 y2 y3 y4 e0 hT hl hTb
  go_enter Tryd.func56, Tryd.ntmps56
  go_wp2_with fail
  refine (N1.out w).mono ?_
  rintro e w1 ⟨g1, c1, rfl, _, s1, d1⟩
  have S1 := Lib.hid s1
  have D1 := Lib.hid d1
  clear s1 d1
  go_wp2_with fail
  refine (N2.out w1).mono ?_
  rintro e w2 ⟨g2, c2, rfl, _, s2, d2⟩
  have S1' := Lib.hid (Fc.src_later S1.out d2)
  have S2 := Lib.hid s2
  have D2 := Lib.hid (D1.out.trans (d2.mono D1.out.size))
  clear s2 d2 S1 D1
  go_wp2_with fail
  refine (N3.out w2).mono ?_
  rintro e w3 ⟨g3, c3, rfl, _, s3, d3⟩
  have S1 := Lib.hid (Fc.src_later S1'.out d3)
  have S2' := Lib.hid (Fc.src_later S2.out d3)
  have S3 := Lib.hid s3
  have D3 := Lib.hid (D2.out.trans (d3.mono D2.out.size))
  clear s3 d3 S1' S2 D2
  go_wp2_with fail
  refine (N4.out w3).mono ?_
  rintro e w4 ⟨g4, c4, rfl, _, s4, d4⟩
  have S1' := Lib.hid (Fc.src_later S1.out d4)
  have S2 := Lib.hid (Fc.src_later S2'.out d4)
  have S3' := Lib.hid (Fc.src_later S3.out d4)
  have S4 := Lib.hid s4
  have D4 := Lib.hid (D3.out.trans (d4.mono D3.out.size))
  clear s4 d4 S1 S2' S3 D3
  go_wp2_with fail
  refine (HF.out w4 w4.heap.size rfl g1 g2 g3 g4 c1 c2 c3 c4 S1' S2 S3' S4).mono ?_
  rintro e w5 ⟨g5, c5, rfl, _, s5, d5⟩
  have D5 := Lib.hid (D4.out.trans (d5.out.mono D4.out.size))
  clear S1' S2 S3' S4 d5 D4
  go_wp2_with fail
  have hm : Below w5.heap.size w5 (w5.alloc (.cells #[.int .u8 72] 5 (1, 2))) := (Below.refl _ w5).alloc (Nat.le_refl _) _
  have sA : Fc.Src (w5.alloc (.cells #[.int .u8 72] 5 (1, 2))) (some ⟨w5.heap.size, 0, none⟩) [72] := fun _ => ⟨w5.heap.size, 0, rfl, fun i hi => by
    obtain rfl : i = 0 := by simp at hi; omega
    simp [World.cell?, Fc.heap_alloc]⟩
  have D6 : Below w.heap.size w (w5.alloc (.cells #[.int .u8 72] 5 (1, 2))) := D5.out.trans (hm.mono D5.out.size)
  refine (HC.out _ (some ⟨g5, 0, none⟩) c5 (Lib.hid (Fc.tab_later ht.out D6)) (Lib.hid (Fc.src_later s5.out hm))).mono ?_
  rintro e w6 ⟨g6, rfl, _, r6, d6⟩
  have SA := Lib.hid (Fc.src_later sA d6.out)
  have SB := Lib.hid (Fc.row_srcs r6.out)
  have D7 := Lib.hid (D6.trans (d6.out.mono D6.size))
  clear sA hm D6 r6 d6 D5 s5
  go_wp2_with fail
  refine (HO.out w6 w6.heap.size rfl w5.heap.size g6 1 (m1 + m2 + m3 + m4 + 4) SA SB).mono ?_
  rintro e w7 ⟨g7, rfl, a1, a2, a3, a4⟩
  go_wp2_with fail
  go_ret
  exact ⟨g7, rfl, Nat.le_trans D7.out.size a1, a2, D7.out.trans (a3.mono D7.out.size), a4⟩
end Go.Proofs.YtfhgdcljhncjmaaDoor
