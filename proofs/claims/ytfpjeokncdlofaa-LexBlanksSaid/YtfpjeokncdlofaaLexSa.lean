/- The statements of package lex: are tokens the same?. -/
import Derived.Test.YtfpjeokncdlofaaLexFr
import Derived.Deep.QuietTactic
namespace Go.Proofs.Ytfpjeokncdlofaa
open Go.ChangeShapes Go.WideShapes Go.ChangeAt Go.RowKit Go.Joins
open Go.Proofs.Ytfpjeokncdlofaa.Fn (st st_size st_list st_extract)
set_option linter.unusedVariables false
set_option maxRecDepth 100000

theorem row_cellT {T : TypeId} {w : World} {B n : Nat} {v : Value} {xs : List Value} (h : w.ownsRow B T 5 v n xs) (hn : 0 < n) : ∃ g cap, v = .slice (some ⟨g, 0, none⟩) n cap ∧ B ≤ g ∧ g < w.heap.size ∧ n ≤ cap ∧ ∀ j u, xs[j]? = some u → ∀ W : World, W.heap[g]? = w.heap[g]? → W.cell? ⟨g, j, none⟩ = some u := by
  rcases h.2 with ⟨_, h0⟩ | ⟨g, cap, cur, hv, hb, hg, hc, hm, hs, ht⟩
  · omega
  · refine ⟨g, cap, hv, hb, (Array.getElem?_eq_some_iff.1 hg).1, hc, fun j u hu W hW => ?_⟩
    rw [World.cell?_of_block (w := w) (a := ⟨g, j, none⟩) hW]
    have h1 := World.ownsRow.cells h (g := g) (by rw [hv]; rfl) j u hu
    have hadd : (⟨g, 0, none⟩ : Addr).add j = ⟨g, j, none⟩ := by unfold Addr.add; split <;> simp_all
    rw [hadd] at h1
    exact h1
/-- a token's cells, wherever its row still stands -/
theorem tok_atT {T : TypeId} {w : World} {B : Nat} {v : Value} {L : List Tok} (h : w.ownsRow B T 5 v L.length (cellsT L)) (hn : 0 < L.length) : ∃ g cap, v = .slice (some ⟨g, 0, none⟩) L.length cap ∧ B ≤ g ∧ g < w.heap.size ∧ L.length ≤ cap ∧ ∀ W : World, W.heap[g]? = w.heap[g]? → ∀ (j : Nat) (hj : j < L.length),
    W.cell? ⟨g, j * 5, none⟩ = some (.int .i64 L[j].2.1) ∧ W.cell? ⟨g, j * 5 + 1, none⟩ = some (.int .i64 (L[j].1.1 : Int)) ∧ W.cell? ⟨g, j * 5 + 2, none⟩ = some (.int .i64 (L[j].1.2 : Int)) ∧ W.cell? ⟨g, j * 5 + 3, none⟩ = some (.int .i64 L[j].2.2.1) ∧ W.cell? ⟨g, j * 5 + 4, none⟩ = some (.string (st L[j].2.2.2)) := by
  obtain ⟨g, cap, hv, hg0, hg1, hc, hcell⟩ := row_cellT h hn
  refine ⟨g, cap, hv, hg0, hg1, hc, fun W hW j hj => ⟨?_, ?_, ?_, ?_, ?_⟩⟩
  · exact hcell _ _ (cellsT_at L j hj 0 _ rfl) W hW
  · exact hcell _ _ (cellsT_at L j hj 1 _ rfl) W hW
  · exact hcell _ _ (cellsT_at L j hj 2 _ rfl) W hW
  · exact hcell _ _ (cellsT_at L j hj 3 _ rfl) W hW
  · exact hcell _ _ (cellsT_at L j hj 4 _ rfl) W hW
set_option maxHeartbeats 4000000 in
/-- rows of the same tokens are the same -/
theorem same_yes (L : List Tok) (hL : L.length ≤ 1000000) (u v : Value) (A B : Nat) (w : World) (hu : Hid (w.ownsRow A 38 5 u L.length (cellsT L))) (hv : Hid (w.ownsRow B 38 5 v L.length (cellsT L))) :
    Calls Try.prog 12 #[u, v] w fun e w' => e = .returned (.bool true) ∧ ∃ n, w' = w.drewN n := by
  obtain ⟨n, hn⟩ : ∃ n, L.length = n := ⟨_, rfl⟩
  obtain ⟨a0, c0, hsu⟩ := own_sl hu.out
  obtain ⟨b0, d0, hsv⟩ := own_sl hv.out
  rw [hn] at hsu hsv
  have HU : Hid (0 < n → ∃ g, a0 = some ⟨g, 0, none⟩ ∧ n ≤ c0 ∧ ∀ W : World, W.heap[g]? = w.heap[g]? → ∀ (j : Nat) (hj : j < L.length),
    W.cell? ⟨g, j * 5, none⟩ = some (.int .i64 L[j].2.1) ∧ W.cell? ⟨g, j * 5 + 1, none⟩ = some (.int .i64 (L[j].1.1 : Int)) ∧ W.cell? ⟨g, j * 5 + 2, none⟩ = some (.int .i64 (L[j].1.2 : Int)) ∧ W.cell? ⟨g, j * 5 + 3, none⟩ = some (.int .i64 L[j].2.2.1) ∧ W.cell? ⟨g, j * 5 + 4, none⟩ = some (.string (st L[j].2.2.2))) := Lib.hid fun hp => by
    obtain ⟨g, cap, he, _, hg, hc, hcell⟩ := tok_atT hu.out (by omega)
    rw [hsu, hn] at he
    cases he
    exact ⟨g, rfl, by omega, hcell⟩
  have HV : Hid (0 < n → ∃ g, b0 = some ⟨g, 0, none⟩ ∧ n ≤ d0 ∧ ∀ W : World, W.heap[g]? = w.heap[g]? → ∀ (j : Nat) (hj : j < L.length),
    W.cell? ⟨g, j * 5, none⟩ = some (.int .i64 L[j].2.1) ∧ W.cell? ⟨g, j * 5 + 1, none⟩ = some (.int .i64 (L[j].1.1 : Int)) ∧ W.cell? ⟨g, j * 5 + 2, none⟩ = some (.int .i64 (L[j].1.2 : Int)) ∧ W.cell? ⟨g, j * 5 + 3, none⟩ = some (.int .i64 L[j].2.2.1) ∧ W.cell? ⟨g, j * 5 + 4, none⟩ = some (.string (st L[j].2.2.2))) := Lib.hid fun hp => by
    obtain ⟨g, cap, he, _, hg, hc, hcell⟩ := tok_atT hv.out (by omega)
    rw [hsv, hn] at he
    cases he
    exact ⟨g, rfl, by omega, hcell⟩
  subst hsu hsv
  clear hu hv
  go_enter Try.func12, Try.ntmps12
  go_wp2_with fail
  go_loopw [5] (fun x wr => ∃ (j k : Nat), j ≤ n ∧ x = .int .i64 (j : Int) ∧ wr = w.drewN k) (fun x _ => n - (intOf x).toNat)
  case atStart => exact ⟨0, 0, by omega, rfl, rfl⟩
  case round =>
    obtain ⟨j, k, hj, rfl, rfl⟩ := hrel
    by_cases hjn : j < n
    · have hjI : (j : Int) < (n : Int) := by omega
      have hj0 : (0 : Int) ≤ (j : Int) := by omega
      obtain ⟨g, rfl, hnc, hcell⟩ := HU.out (by omega)
      obtain ⟨g', rfl, hnc', hcell'⟩ := HV.out (by omega)
      obtain ⟨k0, k1, k2, k3, k4⟩ := hcell w rfl j (by omega)
      obtain ⟨l0, l1, l2, l3, l4⟩ := hcell' w rfl j (by omega)
      obtain ⟨t, ht⟩ : ∃ t, L[j]'(by omega) = t := ⟨_, rfl⟩
      rw [ht] at k0 k1 k2 k3 k4 l0 l1 l2 l3 l4
      obtain ⟨⟨pa, pb⟩, kk, nn, bb⟩ := t
      obtain ⟨tb, htb⟩ : ∃ s, st bb = s := ⟨_, rfl⟩
      change _ = some (Value.int .i64 kk) at k0 l0
      change _ = some (Value.int .i64 (pa : Int)) at k1 l1
      change _ = some (Value.int .i64 (pb : Int)) at k2 l2
      change _ = some (Value.int .i64 nn) at k3 l3
      change _ = some (Value.string (st bb)) at k4 l4
      rw [htb] at k4 l4
      have hncI : (n : Int) ≤ (c0 : Int) := by omega
      have hncI' : (n : Int) ≤ (d0 : Int) := by omega
      clear hcell hcell' ht htb HU HV
      go_wp2_with fail
      go_quiet (fail)
      go_wp2_with fail
      exact ⟨⟨j + 1, k + nq, by omega, by go_num, rfl⟩, by simp only [intOf]; omega⟩
    · obtain rfl : j = n := by omega
      go_wp2_with fail
      go_ret
      exact ⟨rfl, k, rfl⟩
end Go.Proofs.Ytfpjeokncdlofaa
