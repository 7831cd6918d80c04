/- What a head is made of. -/
import Derived.Test.YtfhgdcljhncjmaaDoorWalF
namespace Go.Proofs.YtfhgdcljhncjmaaDoor
open Go.ChangeShapes Go.WideShapes Go.ChangeAt Go.RowKit
set_option linter.unusedVariables false
set_option maxRecDepth 20000

theorem own_src {B : Nat} {a : Option Addr} {cap : Nat} {l : List Nat} {w : World} (h : Fw.Own B (.slice a l.length cap) l w) : Fc.Src w a l := fun hp => by
  obtain ⟨g, rfl, _, _, hc⟩ := Fw.own_cell h hp
  exact ⟨g, 0, rfl, fun i hi => by rw [Nat.zero_add, hc i hi]; simp [List.getD, hi]⟩
theorem src_cells {w : World} {g : Nat} {L : List Nat} (h : Fc.Src w (some ⟨g, 0, none⟩) L) : ∀ (j : Nat) (u : Value), (Fw.cells L)[j]? = some u → w.cell? ((⟨g, 0, none⟩ : Addr).add j) = some u := fun j u hu => by
  have hjl : j < L.length := by
    have := (List.getElem?_eq_some_iff.1 hu).1
    rwa [Fw.cells_len] at this
  obtain ⟨g', o', e, hc⟩ := h (by omega)
  cases e
  have e1 : (⟨g, 0, none⟩ : Addr).add j = ⟨g, 0 + j, none⟩ := by unfold Addr.add; split <;> simp_all
  rw [e1, hc j hjl]
  simp [Fw.cells, hjl] at hu
  rw [← hu]; simp [List.getD, hjl]
theorem cell_zero {w : World} {g : Nat} {L : List Nat} (h : Fc.Src w (some ⟨g, 0, none⟩) L) (i : Nat) (b : Nat) (hb : L[i]? = some b) : w.cell? ⟨g, i, none⟩ = some (.int .u8 (b : Int)) := by
  obtain ⟨hi, e⟩ := List.getElem?_eq_some_iff.1 hb
  obtain ⟨g', o', e', hc⟩ := h (by omega)
  cases e'
  have := hc i hi
  rw [Nat.zero_add] at this
  rw [this]
  simp [List.getD, hb]
theorem own_parts {B : Nat} {v : Value} {l : List Nat} {w : World} (h : Fw.Own B v l w) (hl : 0 < l.length) : ∃ g cap, v = .slice (some ⟨g, 0, none⟩) l.length cap ∧ B ≤ g ∧ g < w.heap.size ∧ Fc.Src w (some ⟨g, 0, none⟩) l := by
  obtain ⟨a, cap, rfl⟩ := Fw.own_form h
  have hs := own_src h
  obtain ⟨g, rfl, h1, h2, _⟩ := Fw.own_cell h hl
  exact ⟨g, cap, rfl, h1, h2, hs⟩
theorem num_src (n : Int) (h1 : -9223372036854775808 ≤ n) (h2 : n ≤ 9223372036854775807) (w : World) (m : Nat) (V : List Nat) (hV : Fw.vb (Fw.zz n) = V) (hm : V.length = m) :
    Calls Tryd.prog 59 #[.int .i64 n] w fun e w' => ∃ g cap, e = .returned (.slice (some ⟨g, 0, none⟩) m cap) ∧ w.heap.size ≤ g ∧ Fc.Src w' (some ⟨g, 0, none⟩) V ∧ Below w.heap.size w w' := by
  refine (Fw.num_any n h1 h2 w).mono ?_
  rintro e w' ⟨v, rfl, ho, hb⟩
  rw [hV] at ho
  obtain ⟨g, cap, rfl, a1, a2, a3⟩ := own_parts ho (by rw [← hV]; exact Fw.vb_pos _)
  rw [hm]
  exact ⟨g, cap, rfl, a1, a3, hb⟩
theorem head_any (age : Int) (h1 : -9223372036854775808 ≤ age) (h2 : age ≤ 9223372036854775807) (w : World) (ht : Hid (Fc.Tab w)) :
    Calls Tryd.prog 36 #[.int .i64 age] w fun e w' => ∃ g, e = .returned (.slice (some ⟨g, 0, none⟩) 512 512) ∧ w.heap.size ≤ g ∧ SecRow w' g (headL age) ∧ Below w.heap.size w w' ∧ g < w'.heap.size := by
  obtain ⟨i0, hi, hz0, hz1, hz2⟩ := info_parts Fw.info8
  have kc := fun (w : World) (C : Array Value) (n c : Nat) => Lib.run_convert_bytes_const (P := Tryd.prog) w 34 5 C n c Tryd.underlying34 Tryd.underlying5
  obtain ⟨V, hV⟩ : ∃ V, Fw.vb (Fw.zz age) = V := ⟨_, rfl⟩
  obtain ⟨m, hm⟩ : ∃ m, V.length = m := ⟨_, rfl⟩
  have hm1 : 1 ≤ m := by rw [← hm, ← hV]; exact Fw.vb_pos _
  have hm2 : m ≤ 10 := by rw [← hm, ← hV]; exact Fw.vb_ten _ (Fw.zz_lt age h1 h2)
  have hVb : ∀ b ∈ V, b < 256 := by rw [← hV]; exact Fw.vb_byte _
  have e0 : headL age = closeL ([76, 71] ++ V) := by unfold headL; rw [hV]
  rw [e0]
  have h0 : Below w.heap.size w (w.alloc (.cells #[.int .u8 76, .int .u8 71] 5 (2, 3))) := (Below.refl _ w).alloc (Nat.le_refl _) _
  have hs1 : Fc.Src (w.alloc (.cells #[.int .u8 76, .int .u8 71] 5 (2, 3))) (some ⟨w.heap.size, 0, none⟩) [76, 71] := fun _ => ⟨w.heap.size, 0, rfl, fun i hi => by
    rcases (show i = 0 ∨ i = 1 by simp at hi; omega) with rfl | rfl <;> simp [World.cell?, Fc.heap_alloc]⟩
  have HN := Lib.hid (num_src age h1 h2 (w.alloc (.cells #[.int .u8 76, .int .u8 71] 5 (2, 3))) m V hV hm)
  have HB0 := Lib.hid h0
  have HS1 := Lib.hid hs1
  have Hm := Lib.hid (fun _ : True => hm)
  have HLl : Hid (True → ([76, 71] ++ V).length = 2 + m) := Lib.hid fun _ => by rw [List.length_append, hm]; rfl
  have HC := Lib.hid (fun (W : World) (a : Option Addr) (c : Nat) (hW : Fc.Tab W) (hsr : Fc.Src W a ([76, 71] ++ V)) => Fc.close_m a c (2 + m) ([76, 71] ++ V) (HLl.out trivial) (by omega) (by
    intro b hb
    rcases List.mem_append.1 hb with h | h
    · simp at h; omega
    · exact hVb b h) W (Lib.hid hW) (Lib.hid hsr))
  clear h0 hs1 hm hV hVb e0
  go_enter Tryd.func36, Tryd.ntmps36
  go_wp2_with fail
  refine HN.out.mono ?_
  rintro e w2 ⟨gN, c, rfl, hgN, hsN, hb2⟩
  have hcap : 2 < 2 + m := by omega
  have k3 : 2 + m ≤ maxLen := by unfold maxLen; omega
  have k4 : (2 + m) * 1 ≤ 140737488355328 := by omega
  have HS2 := Lib.hid (Fc.src_later HS1.out hb2)
  have HSN := Lib.hid hsN
  have HB2 := Lib.hid (HB0.out.trans (hb2.mono HB0.out.size))
  clear hsN hb2
  go_wp2_with (at_builtin; refine wpList_append_grows _ rfl _ _ 34 rfl 5 i0 (.int .u8 0) 1 1 Tryd.underlying34 hi hz0 hz1 hz2 rfl (by decide) (some ⟨w.heap.size, 0, none⟩) 2 2 (Fw.cells [76, 71]) rfl (fun h => by cases h) rfl (fun b hb => by cases hb; exact src_cells HS2.out) ⟨gN, 0, none⟩ m c (Fw.cells V) rfl (by rw [Fw.cells_len, Hm.out trivial, Nat.mul_one]) (src_cells HSN.out) (Fw.cells_one _) hcap k3 k4 ?_; intro v' w3 hown3 hgrow3)
  have hown : Fw.Own w2.heap.size v' ([76, 71] ++ V) w3 := by
    unfold Fw.Own
    rw [HLl.out trivial]
    have e : Fw.cells ([76, 71] ++ V) = Fw.cells [76, 71] ++ Fw.cells V := by simp [Fw.cells]
    rw [e]; exact hown3
  obtain ⟨g3, c3, rfl, hg3, hg3', hs3⟩ := own_parts hown (by rw [HLl.out trivial]; omega)
  rw [HLl.out trivial]
  have hb3 : Below w.heap.size w w3 := HB2.out.grown hgrow3 HB2.out.size (fun k e => by cases e)
  have HCC := Lib.hid (HC.out w3 (some ⟨g3, 0, none⟩) c3 (Fc.tab_later ht.out hb3) hs3)
  have HB3 := Lib.hid hb3
  clear hown hown3 hgrow3 hs3 hb3
  go_wp2_with fail
  refine HCC.out.mono ?_
  rintro e w4 ⟨g4, rfl, hg4, hr4, hb4⟩
  have hS4 : Fc.Src w4 (some ⟨g4, 0, none⟩) (closeL ([76, 71] ++ V)) := Fc.row_srcs hr4.out
  have HO := Lib.hid (sector_one w4 w4.heap.size rfl (some ⟨g4, 0, none⟩) (2 + m + 4) (2 + m + 4) (closeL ([76, 71] ++ V)) (by unfold closeL; rw [List.length_append, HLl.out trivial]; rfl) (by omega) (Lib.hid hS4) (.inr ⟨_, rfl⟩))
  have HB4 := Lib.hid (HB3.out.trans (hb4.out.mono HB3.out.size))
  clear hr4 hb4 hS4
  go_wp2_with fail
  refine HO.out.mono ?_
  rintro e w5 ⟨g5, rfl, hg5, hr5, hb5, hl5⟩
  go_wp2_with fail
  go_ret
  exact ⟨g5, rfl, Nat.le_trans HB4.out.size hg5, hr5, HB4.out.trans (hb5.mono HB4.out.size), hl5⟩
end Go.Proofs.YtfhgdcljhncjmaaDoor
