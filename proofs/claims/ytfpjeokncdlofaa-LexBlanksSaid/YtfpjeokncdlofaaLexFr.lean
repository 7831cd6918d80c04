/- The statements of package lex: tokens as the document's. -/
import Derived.Test.YtfpjeokncdlofaaLexX
import Derived.Deep.RegionHeld3
import Derived.Deep.AppendLies
namespace Go.Proofs.Ytfpjeokncdlofaa
open Go.ChangeShapes Go.WideShapes Go.ChangeAt Go.RowKit Go.Joins
open Go.Proofs.Ytfpjeokncdlofaa.Fn (st st_size st_list st_extract)
set_option linter.unusedVariables false
set_option maxRecDepth 100000

theorem infoR : (Try.prog.info? 38).map (fun i => (i.zero, i.size, i.bytes)) = some (some (.agg #[.int .i64 0, .int .i64 0, .int .i64 0, .int .i64 0, .string ⟨#[]⟩]), 5, 48) := by kernel_rfl
theorem cellsT_len : ∀ L : List Tok, (cellsT L).length = 5 * L.length
  | [] => rfl
  | k :: L => by
    show (Tok.cells k ++ cellsT L).length = _
    rw [List.length_append, cellsT_len L, List.length_cons]
    show 5 + 5 * L.length = _
    omega
theorem cellsT_at : ∀ (L : List Tok) (j : Nat) (h : j < L.length) (i : Nat) (u : Value), (Tok.cells L[j])[i]? = some u → (cellsT L)[j * 5 + i]? = some u
  | k :: L, 0, h, i, u, hu => by
    show (Tok.cells k ++ cellsT L)[0 * 5 + i]? = _
    have hu' : (Tok.cells k)[i]? = some u := hu
    rw [Nat.zero_mul, Nat.zero_add, List.getElem?_append_left (List.getElem?_eq_some_iff.1 hu').1]
    exact hu'
  | k :: L, j + 1, h, i, u, hu => by
    show (Tok.cells k ++ cellsT L)[(j + 1) * 5 + i]? = _
    rw [List.getElem?_append_right (by show 5 ≤ _; omega)]
    have e : (j + 1) * 5 + i - (Tok.cells k).length = j * 5 + i := by show _ - 5 = _; omega
    rw [e]
    exact cellsT_at L j (by simpa using h) i u hu
/-- a token's cells, wherever its row still stands -/
theorem tok_at {w : World} {B : Nat} {v : Value} {L : List Tok} (h : w.ownsRow B 44 5 v L.length (cellsT L)) (hn : 0 < L.length) : ∃ g cap, v = .slice (some ⟨g, 0, none⟩) L.length cap ∧ B ≤ g ∧ g < w.heap.size ∧ L.length ≤ cap ∧ ∀ W : World, W.heap[g]? = w.heap[g]? → ∀ (j : Nat) (hj : j < L.length),
    W.cell? ⟨g, j * 5, none⟩ = some (.int .i64 L[j].2.1) ∧ W.cell? ⟨g, j * 5 + 1, none⟩ = some (.int .i64 (L[j].1.1 : Int)) ∧ W.cell? ⟨g, j * 5 + 2, none⟩ = some (.int .i64 (L[j].1.2 : Int)) ∧ W.cell? ⟨g, j * 5 + 3, none⟩ = some (.int .i64 L[j].2.2.1) ∧ W.cell? ⟨g, j * 5 + 4, none⟩ = some (.string (st L[j].2.2.2)) := by
  obtain ⟨g, cap, hv, hg0, hg1, hc, hcell⟩ := row_cell h hn
  refine ⟨g, cap, hv, hg0, hg1, hc, fun W hW j hj => ⟨?_, ?_, ?_, ?_, ?_⟩⟩
  · exact hcell _ _ (cellsT_at L j hj 0 _ rfl) W hW
  · exact hcell _ _ (cellsT_at L j hj 1 _ rfl) W hW
  · exact hcell _ _ (cellsT_at L j hj 2 _ rfl) W hW
  · exact hcell _ _ (cellsT_at L j hj 3 _ rfl) W hW
  · exact hcell _ _ (cellsT_at L j hj 4 _ rfl) W hW
theorem cellsT_take (L : List Tok) (j : Nat) (h : j < L.length) : cellsT (L.take (j + 1)) = cellsT (L.take j) ++ Tok.cells L[j] := by
  rw [← List.take_append_getElem h, cellsT_snoc]
set_option maxHeartbeats 8000000 in
theorem from_any (L : List Tok) (hL : L.length ≤ 1000000) (v : Value) (B : Nat) (w : World) (h : Hid (w.ownsRow B 44 5 v L.length (cellsT L))) :
    Calls Try.prog 13 #[v] w fun e w' => ∃ u, e = .returned u ∧ Hid (w'.ownsRow w.heap.size 38 5 u L.length (cellsT L)) ∧ Hid (Below w.heap.size w w') := by
  obtain ⟨n, hn⟩ : ∃ n, L.length = n := ⟨_, rfl⟩
  obtain ⟨a0, c0, hsv⟩ := own_sl h.out
  rw [hn] at hsv
  have HC : Hid (0 < n → ∃ g, a0 = some ⟨g, 0, none⟩ ∧ g < w.heap.size ∧ n ≤ c0 ∧ ∀ W : World, W.heap[g]? = w.heap[g]? → ∀ (j : Nat) (hj : j < L.length),
    W.cell? ⟨g, j * 5, none⟩ = some (.int .i64 L[j].2.1) ∧ W.cell? ⟨g, j * 5 + 1, none⟩ = some (.int .i64 (L[j].1.1 : Int)) ∧ W.cell? ⟨g, j * 5 + 2, none⟩ = some (.int .i64 (L[j].1.2 : Int)) ∧ W.cell? ⟨g, j * 5 + 3, none⟩ = some (.int .i64 L[j].2.2.1) ∧ W.cell? ⟨g, j * 5 + 4, none⟩ = some (.string (st L[j].2.2.2))) := Lib.hid fun hp => by
    obtain ⟨g, cap, hv, _, hg, hc, hcell⟩ := tok_at h.out (by omega)
    rw [hsv, hn] at hv
    cases hv
    exact ⟨g, rfl, hg, by omega, hcell⟩
  subst hsv
  obtain ⟨i0, hi0, hz0, hz1, hz2⟩ := info_parts infoR
  have HI := Lib.hid (show _ ∧ _ ∧ _ ∧ _ from ⟨hi0, hz0, hz1, hz2⟩)
  clear h hi0 hz0 hz1 hz2
  go_enter Try.func13, Try.ntmps13
  go_wp2_with fail
  go_loopw [3, 4] (fun u x wr => ∃ (j : Nat), j ≤ n ∧ x = .int .i64 (j : Int) ∧ Hid (wr.ownsRow w.heap.size 38 5 u j (cellsT (L.take j))) ∧ Hid (Below w.heap.size w wr)) (fun _ x _ => n - (intOf x).toNat)
  case atStart => exact ⟨0, by omega, rfl, Lib.hid (World.ownsRow_nil _ _ _ _), Lib.hid (Below.refl _ _)⟩
  case round =>
    obtain ⟨j, hj, rfl, HO, HB⟩ := hrel
    obtain ⟨wo, rfl⟩ : ∃ wo : World, wo = wr := ⟨_, rfl⟩
    by_cases hjn : j < n
    · have hjI : (j : Int) < (n : Int) := by omega
      have hj0 : (0 : Int) ≤ (j : Int) := by omega
      obtain ⟨g, rfl, hg, hnc, hcell⟩ := HC.out (by omega)
      obtain ⟨k0, k1, k2, k3, k4⟩ := hcell wo (HB.out.block g hg) j (by omega)
      have HN : Hid (cellsT (L.take (j + 1)) = cellsT (L.take j) ++ Tok.cells (L[j]'(by omega))) := Lib.hid (cellsT_take L j (by omega))
      obtain ⟨va, vc, rfl⟩ := own_sl HO.out
      obtain ⟨t, ht⟩ : ∃ t, L[j]'(by omega) = t := ⟨_, rfl⟩
      rw [ht] at k0 k1 k2 k3 k4 HN
      obtain ⟨⟨pa, pb⟩, kk, nn, bb⟩ := t
      change wo.cell? _ = some (.int .i64 kk) at k0
      change wo.cell? _ = some (.int .i64 (pa : Int)) at k1
      change wo.cell? _ = some (.int .i64 (pb : Int)) at k2
      change wo.cell? _ = some (.int .i64 nn) at k3
      change wo.cell? _ = some (.string (st bb)) at k4
      obtain ⟨tb, htb⟩ : ∃ s, st bb = s := ⟨_, rfl⟩
      rw [htb] at k4
      have HNc : Hid (cellsT (L.take (j + 1)) = cellsT (L.take j) ++ [.int .i64 kk, .int .i64 (pa : Int), .int .i64 (pb : Int), .int .i64 nn, .string tb]) := Lib.hid (by rw [HN.out, ← htb]; rfl)
      have ag : (Value.slice va j vc).ownBlock ≠ some g := fun e => by have := HO.out.lt g e; omega
      have hown := HO.out
      have hbase : w.heap.size ≤ wo.heap.size := HB.out.size
      obtain ⟨hi0, hz0, hz1, hz2⟩ := HI.out
      have hncI : (n : Int) ≤ (c0 : Int) := by omega
      clear hcell HC HN ht htb
      go_wp2_with fail
      go_region_held3 (fun w' => w'.cell? ⟨g, j * 5, none⟩ = some (.int .i64 kk) ∧ w'.cell? ⟨g, j * 5 + 1, none⟩ = some (.int .i64 (pa : Int)) ∧ w'.cell? ⟨g, j * 5 + 2, none⟩ = some (.int .i64 (pb : Int)) ∧ w'.cell? ⟨g, j * 5 + 3, none⟩ = some (.int .i64 nn) ∧ w'.cell? ⟨g, j * 5 + 4, none⟩ = some (.string tb))
        (first
          | go_keep
          | (go_split_ands
             refine ⟨?_, ?_, ?_, ?_, ?_⟩ <;> (rw [hgrow.cell_far _ (by simp; omega) (Ne.symm ag)]; assumption)))
        ((refine step_append_lies _ (by rfl) _ _ _ (by rfl) w.heap.size 38 i0 _ 5 48 Try.underlying29 hi0 hz0 hz1 hz2 rfl (by omega) (.slice va j vc) j (cellsT (L.take j)) (by rfl) ((hown.alloc _).drew)
            ⟨wo.heap.size, 0, none⟩ 1 1 [.int .i64 kk, .int .i64 (pa : Int), .int .i64 (pb : Int), .int .i64 nn, .string tb] (by rfl) (by rfl) (World.news_of_block (cs := #[.int .i64 kk, .int .i64 (pa : Int), .int .i64 (pb : Int), .int .i64 nn, .string tb]) (t := 38) (fr := (0, 0)) (heap_alloc_new wo _)) (by simp [Value.oneCell'])
            (by omega) (by unfold maxLen; omega) (by omega) (by simp; omega) (wo.heap.size + 1) (by simp) ?_; intro gg cap w1 hown1 hgrow hat hlt))
      have hbw : Below w.heap.size w w1 := by
        refine Below.grown ?_ hgrow (by simp; omega) fun k hk => (hown.lt k hk).1
        have h9 := HB.out.alloc hbase (.cells #[.int .i64 kk, .int .i64 (pa : Int), .int .i64 (pb : Int), .int .i64 nn, .string tb] 38)
        exact ⟨h9.os, h9.tape, h9.output, h9.size, h9.block⟩
      have HBW := Lib.hid hbw
      have HOW : Hid (w1.ownsRow w.heap.size 38 5 (.slice (some ⟨gg, 0, none⟩) (j + 1) cap) (j + 1) (cellsT (L.take (j + 1)))) := Lib.hid (by rw [HNc.out]; exact hown1)
      clear hbw hown1 hgrow hat hlt hown k0 k1 k2 k3 k4
      go_wp2_with fail
      go_roundw
      case rel => exact ⟨j + 1, by omega, by go_num, HOW, HBW⟩
      case measure => simp only [intOf]; omega
    · obtain rfl : j = n := by omega
      have HO9 : Hid (wo.ownsRow w.heap.size 38 5 u3 j (cellsT L)) := Lib.hid (by have h := HO.out; rw [List.take_of_length_le (by omega)] at h; exact h)
      go_wp2_with fail
      go_ret
      exact ⟨_, rfl, by rw [hn]; exact HO9, HB⟩
end Go.Proofs.Ytfpjeokncdlofaa
