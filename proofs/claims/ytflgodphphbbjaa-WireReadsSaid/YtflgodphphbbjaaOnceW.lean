/- The walk of the law WireOnce. No condition. -/
import Derived.Test.YtflgodphphbbjaaOnce
import Derived.Deep.RegionWith
namespace Go.Proofs.Ytflgodphphbbjaa
open Go.ChangeShapes Go.WideShapes Go.ChangeAt Go.RowKit Go.Lib

/-- what stands behind Open and Num, told of the reader's box -/
theorem open_m (sp : Option Addr) (cap m : Nat) (L : List Nat) (hm : L.length = m) (hn : m ≤ 1000000) (w : World) (hs : Hid (Src w sp L)) :
    Calls Try.prog 20 #[.slice sp m cap] w fun e w' => ∃ g, e = .returned (.pointer (some ⟨g, 0, none⟩)) ∧ w.heap.size ≤ g ∧ Hid (Box w' g L 0) ∧ Hid (Below w.heap.size w w') := by
  subst hm
  exact (open_any sp cap L hn w hs).mono fun e w' ⟨g, h1, h2, h3, h4⟩ => ⟨g, h1, h2, Lib.hid h3, Lib.hid h4⟩
theorem num_m (g : Nat) (L : List Nat) (hn : L.length ≤ 1000000) (hB : ∀ b ∈ L, b < 256) (n : Int) (s : Nat) (er : Int) (hr : rd 0 0 L = (n, s, er)) (w : World) (hb : Hid (Box w g L 0)) :
    Calls Try.prog 15 #[.pointer (some ⟨g, 0, none⟩), .int .i64 (-9223372036854775808), .int .i64 9223372036854775807] w fun e w' => e = .returned (.int .i64 n) ∧ Hid (Box w' g (L.drop s) er) ∧ Hid (Below g w w') :=
  (inNum_any g L (-9223372036854775808) 9223372036854775807 hn hB w hb).mono fun e w' ⟨h1, h2, h3⟩ => by
    rw [rdB_wide L hB, hr] at h1 h2
    exact ⟨h1, Lib.hid h2, Lib.hid h3⟩
set_option maxRecDepth 20000 in
set_option maxHeartbeats 2000000 in
theorem once_bad (a0 : Option Addr) (len0 cap0 : Nat) (w : World) (m : Nat) (hm : m = len0 ∧ len0 ≤ 14 ∨ m = 14 ∧ 14 < len0) (hcap : len0 ≤ cap0) (L : List Nat) (hL : L.length = m) (hB : ∀ b ∈ L, b < 256) (hS : Src w a0 L) (hA : (a0 = none ∧ cap0 = 0) ∨ ∃ x, a0 = some x)
    (s : Nat) (er : Int) (hr : rd 0 0 L = (0, s, er)) (he : er ≠ 0) :
    Calls Try.prog 6 #[.slice a0 len0 cap0] w fun e w' => e = .returned (.bool true) ∧ Below w.heap.size w w' := by
  have HO := Lib.hid (open_m a0 cap0 m L hL (by omega) w (Lib.hid hS))
  have HN := Lib.hid (fun g W hb => num_m g L (by omega) hB 0 s er hr W hb)
  clear hr hB hS hL
  rcases hm with ⟨rfl, hm⟩ | ⟨rfl, hm⟩ <;> rcases hA with ⟨rfl, rfl⟩ | ⟨x, rfl⟩
  case' inl.inl => obtain rfl : m = 0 := by omega
  all_goals try (exfalso; omega)
  all_goals
    go_enter Try.func6, Try.ntmps6
    go_wp2_with fail
    refine HO.out.mono ?_
    rintro e w1 ⟨g, rfl, hg1, hb1, hl1⟩
    go_wp2_with fail
    refine (HN.out g _ hb1).mono ?_
    rintro e w2 ⟨rfl, hb2, hl2⟩
    go_wp2_with fail
    refine (wires_any _).mono ?_
    rintro e w3 ⟨rfl, hl3'⟩
    have hl3 := Lib.hid hl3'
    clear hl3'
    go_wp2_with fail
    refine (err_any g _ er _ (Lib.hid (box_later hb2.out hl3.out))).mono ?_
    rintro e w4 ⟨rfl, rfl⟩
    go_wp2_with fail
    refine (wires_any _).mono ?_
    rintro e w5 ⟨rfl, hl5'⟩
    have hl5 := Lib.hid hl5'
    clear hl5'
    go_wp2_with fail
    go_ret
    exact ⟨rfl, chain2 (chain2 (hl1.out.trans (hl2.out.mono hg1)) hl3.out) hl5.out⟩

theorem below_drewN {B : Nat} {a w : World} (h : Below B a w) (k : Nat) : Below B a (w.drewN k) := ⟨h.os, h.tape, h.output, h.size, h.block⟩
theorem num_c (n : Int) (h1 : -9223372036854775808 ≤ n) (h2 : n ≤ 9223372036854775807) (c : Nat) (hc : (vb (zz n)).length = c) (w : World) :
    Calls Try.prog 9 #[.int .i64 n] w fun e w' => ∃ a cap, e = .returned (.slice a c cap) ∧ Hid (Below w.heap.size w w') ∧ Hid (Reads (.slice a c cap) (sv (vb (zz n))) w') :=
  (num_any n h1 h2 w).mono fun e w' ⟨v, he, ho, hb⟩ => by
    obtain ⟨a, cap, rfl⟩ := own_form ho
    rw [hc] at he ho
    have hp : 0 < c := by rw [← hc]; exact vb_pos _
    exact ⟨a, cap, he, Lib.hid hb, Lib.hid (by have := own_reads (l := vb (zz n)) (by rw [hc]; exact ho) (by omega); rw [hc] at this; exact this)⟩
set_option maxRecDepth 20000 in
set_option maxHeartbeats 2000000 in
theorem once_good (gb ob len0 cap0 : Nat) (w : World) (m : Nat) (hm : m = len0 ∧ len0 ≤ 14 ∨ m = 14 ∧ 14 < len0) (hcap : len0 ≤ cap0) (L : List Nat) (hL : L.length = m) (hB : ∀ b ∈ L, b < 256) (hS : At w gb ob L)
    (n : Int) (c : Nat) (hr : rd 0 0 L = (n, c, 0)) :
    Calls Try.prog 6 #[.slice (some ⟨gb, ob, none⟩) len0 cap0] w fun e w' => e = .returned (.bool true) ∧ Below w.heap.size w w' := by
  have hsrc : Src w (some ⟨gb, ob, none⟩) L := fun _ => ⟨_, rfl, fun i hi => by
    have e : (⟨gb, ob, none⟩ : Addr).add i = ⟨gb, ob + i, none⟩ := by unfold Addr.add; split <;> simp_all
    rw [e]; exact hS i hi⟩
  have HO := Lib.hid (open_m (some ⟨gb, ob, none⟩) cap0 m L hL (by omega) w (Lib.hid hsrc))
  have HN := Lib.hid (fun g W hb => num_m g L (by omega) hB n c 0 hr W hb)
  have hn := rd_int L hB
  rw [hr] at hn
  have h1 : -9223372036854775808 ≤ n := hn.1
  have h2 : n ≤ 9223372036854775807 := hn.2
  clear hn
  have hcm : c ≤ m := by have := rd_size L 0 0; rw [hr] at this; have h3 : c ≤ 0 + L.length := this; omega
  obtain ⟨y, e1, e2, e3, _⟩ := rd_ok L 0 0 hB (by rw [hr])
  rw [hr] at e1 e2 e3
  have e1' : n = uz y := by have e4 : n = uz (0 + y * 2 ^ (7 * 0)) := e1; rw [e4]; congr 1; omega
  have e3' : L.take c = vb (zz n) := by rw [e1', zz_uz]; exact e3
  have hc : (vb (zz n)).length = c := by rw [← e3', List.length_take]; omega
  have hc1 : 0 < c := e2
  have HC := Lib.hid (num_c n h1 h2 c hc)
  have HR := Lib.hid (at_reads (cap := cap0) hS c (by omega))
  rw [e3'] at HR
  have hd : (L.drop c).length = m - c := by rw [List.length_drop, hL]
  obtain ⟨d, hd1, hd2⟩ : ∃ d, (L.drop c).length = d ∧ m = c + d := ⟨m - c, hd, by omega⟩
  have HL : Hid (∀ g W, Hid (Box W g (L.drop c) 0) → Calls Try.prog 18 #[.pointer (some ⟨g, 0, none⟩)] W fun e w' => e = .returned (.int .i64 (d : Int)) ∧ w' = W) :=
    Lib.hid fun g W hb => (left_any g (L.drop c) 0 W hb).mono fun e w' ⟨h1, h2⟩ => ⟨by rw [h1, hd1], h2.symm⟩
  have hdm : d ≤ m := by omega
  clear hr hB hsrc hS hL e1 e2 e3 e1' e3' hc hd hd1
  generalize sv (vb (zz n)) = t at *
  generalize L.drop c = L' at *
  rcases hm with ⟨rfl, hm⟩ | ⟨rfl, hm⟩
  case' inl => have hsub : IntKind.i64.wrap ((m : Int) - (d : Int)) = (c : Int) := by rw [IntKind.wrap_i64]; omega
  case' inr => have hsub : IntKind.i64.wrap ((14 : Int) - (d : Int)) = (c : Int) := by rw [IntKind.wrap_i64]; omega
  all_goals
    clear hd2
    go_enter Try.func6, Try.ntmps6
    go_wp2_with fail
    refine HO.out.mono ?_
    rintro e w1 ⟨g, rfl, hg1, hb1, hl1⟩
    go_wp2_with fail
    refine (HN.out g _ hb1).mono ?_
    rintro e w2 ⟨rfl, hb2, hl2⟩
    go_wp2_with fail
    refine (wires_any _).mono ?_
    rintro e w3 ⟨rfl, hl3'⟩
    have hl3 := Lib.hid hl3'
    have hb3 := Lib.hid (box_later hb2.out hl3')
    clear hl3'
    go_wp2_with fail
    refine (err_any g _ 0 _ hb3).mono ?_
    rintro e w4 ⟨rfl, rfl⟩
    go_wp2_with fail
    refine (HC.out _).mono ?_
    rintro e w4 ⟨a, cap, rfl, hl4, hrd⟩
    have hb4 := Lib.hid (box_later hb3.out hl4.out)
    have hlw := Lib.hid (chain2 (chain2 (hl1.out.trans (hl2.out.mono hg1)) hl3.out) hl4.out)
    have hb4d : ∀ k, Hid (Box (w4.drewN k) g L' 0) := fun k => Lib.hid (box_later hb4.out (below_drewN (Below.refl _ w4) k))
    have HB := Lib.hid hb4d
    have hq1 : ∀ k, (convert 23 9 (.slice a c cap)).run Try.prog (w4.drewN k) = .ok (.string t) (w4.drewN k) := fun k => hrd.out _ (below_drewN (Below.refl _ w4) k)
    have hq2 : ∀ k, (convert 23 9 (.slice (some ⟨gb, ob, none⟩) c cap0)).run Try.prog (w4.drewN k) = .ok (.string t) (w4.drewN k) := fun k => HR.out _ (below_drewN hlw.out k)
    clear hb1 hb2 hb3 hl1 hl2 hl3 hl4 hrd HR HC HN HO hb4 hb4d
    go_wp2_with fail
    go_quiet ((go_at_call 18; exact Calls.quiet_of_same (HL.out g _ (HB.out _))))
    go_wp2
    go_ret
    exact ⟨rfl, below_drewN hlw.out _⟩
theorem wireOnce_walk (a0 : Option Addr) (len0 cap0 : Nat) (z0 : List Int) (w : World)
    (w0 : (a0 = none ∧ len0 = 0 ∧ cap0 = 0 ∧ z0 = []) ∨ ∃ x, a0 = some x ∧ len0 ≤ cap0 ∧ cap0 ≤ maxLen ∧ z0.length = cap0 ∧ (∀ i, i < z0.length → w.cell? (x.add i) = some (.int .u8 (z0.getD i 0))) ∧ ∀ n ∈ z0, (Lit.int .u8 n).wf = true) :
    Calls Try.prog 6 #[.slice a0 len0 cap0] w fun e w' => e = .returned (.bool true) ∧ Below w.heap.size w w' := by
  obtain ⟨m, hm, hml⟩ : ∃ m, (m = len0 ∧ len0 ≤ 14 ∨ m = 14 ∧ 14 < len0) ∧ m ≤ len0 := by
    rcases Nat.lt_or_ge 14 len0 with h | h
    · exact ⟨14, .inr ⟨rfl, h⟩, by omega⟩
    · exact ⟨len0, .inl ⟨rfl, h⟩, Nat.le_refl _⟩
  obtain ⟨L, hL, hB, hS⟩ := once_src w0 m hml
  have hcap : len0 ≤ cap0 := by rcases w0 with ⟨_, h1, h2, _⟩ | ⟨_, _, h, _⟩ <;> omega
  have hA : (a0 = none ∧ cap0 = 0) ∨ ∃ x, a0 = some x := by rcases w0 with ⟨h1, _, h2, _⟩ | ⟨x, h, _⟩; exact .inl ⟨h1, h2⟩; exact .inr ⟨x, h⟩
  by_cases he : (rd 0 0 L).2.2 = 0
  · have hp : 0 < L.length := by
      rcases L with _ | ⟨c, t⟩
      · exact absurd he (by decide)
      · simp
    obtain ⟨gb, ob, rfl, hat⟩ := src_at hS hp
    exact once_good gb ob len0 cap0 w m hm hcap L hL hB hat (rd 0 0 L).1 (rd 0 0 L).2.1 (by rw [← he])
  · exact once_bad a0 len0 cap0 w m hm hcap L hL hB hS hA (rd 0 0 L).2.1 (rd 0 0 L).2.2 (by rw [← (rd_err L 0 0 he).1]) he
end Go.Proofs.Ytflgodphphbbjaa
