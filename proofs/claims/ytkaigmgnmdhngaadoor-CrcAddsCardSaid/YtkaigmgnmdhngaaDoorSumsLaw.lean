/- The walk of the law CrcSums, for every row of bytes that came in. -/
import Derived.Test.YtkaigmgnmdhngaaDoorSumsW
import Derived.Test.YtkaigmgnmdhngaaDoorLaid
namespace Go.Proofs.YtkaigmgnmdhngaaDoor
open Go.ChangeShapes Go.WideShapes Go.ChangeAt Go.RowKit Go.Joins

theorem cut_of (len0 : Nat) : ∃ m, Cut m len0 ∧ m ≤ len0 ∧ m ≤ 3000 := by
  rcases Nat.lt_or_ge 3000 len0 with h | h
  · exact ⟨3000, .inr ⟨rfl, h⟩, by omega, by omega⟩
  · exact ⟨len0, .inl ⟨rfl, h⟩, by omega, by omega⟩
theorem mod_cut (cut : Int) (m : Nat) (hm : m ≤ 100000) : ∃ k : Nat, wrap64 ((IntKind.u64.wrap cut).tmod ((m : Int) + 1)) = (k : Int) ∧ k ≤ m := by
  have h0 : 0 ≤ IntKind.u64.wrap cut := by rw [IntKind.wrap_u64]; omega
  refine ⟨((IntKind.u64.wrap cut).tmod ((m : Int) + 1)).toNat, ?_, ?_⟩
  · rw [Int.tmod_eq_emod_of_nonneg h0]
    unfold wrap64
    generalize IntKind.u64.wrap cut = x at *
    have h1 := Int.emod_nonneg x (show (m : Int) + 1 ≠ 0 by omega)
    have h2 := Int.emod_lt_of_pos x (show 0 < (m : Int) + 1 by omega)
    generalize x % ((m : Int) + 1) = y at *
    omega
  · rw [Int.tmod_eq_emod_of_nonneg h0]
    generalize IntKind.u64.wrap cut = x at *
    have h2 := Int.emod_lt_of_pos x (show 0 < (m : Int) + 1 by omega)
    generalize x % ((m : Int) + 1) = y at *
    omega
theorem crcSums_walk (a0 : Option Addr) (len0 cap0 : Nat) (z0 : List Int) (cut : Int) (w : World) (hl : laidMetH Tryd.prog [("scriptor/crc.halves", Rows.laid_scriptor_crc_halves)] w) (w0 : Came w a0 len0 cap0 z0) :
    Calls Tryd.prog 3 #[.slice a0 len0 cap0, .int .i64 cut] w fun e w' => e = .returned (.bool true) ∧ Below w.heap.size w w' := by
  have hT := tab_of_laid hl
  obtain ⟨m, hm, hml, hm3⟩ := cut_of len0
  obtain ⟨L, hL, hB, hS⟩ := came_src w0 m hml
  obtain ⟨hcap, _⟩ := came_le w0
  obtain ⟨k, hk, hkm⟩ := mod_cut cut m (by omega)
  have hr : ∀ W, Calls Tryd.prog 9 #[.string (sv L)] W fun e w' => e = .returned (.int .u32 ((crcOf L : Nat) : Int)) ∧ W = w' := fun W => refSum_sv L (by omega) hB W
  have hn : a0 = none → L.length = 0 := fun e => by
    rcases came_addr w0 with ⟨_, h, _⟩ | ⟨x, h⟩
    · omega
    · rw [e] at h; cases h
  have hq : ∀ W, Below w.heap.size w W → (convert 22 9 (.slice a0 m cap0)).run Tryd.prog W = .ok (.string (sv L)) W := fun W hb => by
    have := src_conv0 (src_later hS hb) cap0 hn
    rwa [hL] at this
  have hST := src_take hS k
  have hmc : m ≤ cap0 := by omega
  have hkc : k ≤ cap0 := by omega
  by_cases hp : 0 < m
  · obtain ⟨g, o, rfl, hc⟩ := hS (by omega)
    by_cases hck : cap0 = k
    · refine crcSums_mid (some ⟨g, o, none⟩) (some ⟨g, o, none⟩) len0 cap0 m hm hcap cut w k hk hkm (sv L) L hL hB ⟨hT, hS, hST, fun h => absurd h (by rw [List.length_drop]; omega)⟩ hq hr (fun W => by go_simp) (fun W => by subst hck; go_simp)
    · refine crcSums_mid (some ⟨g, o, none⟩) (some ⟨g, o + k, none⟩) len0 cap0 m hm hcap cut w k hk hkm (sv L) L hL hB ⟨hT, hS, hST, src_drop hS k⟩ hq hr (fun W => by go_simp) (fun W => by go_simp)
  · obtain rfl : k = 0 := by omega
    obtain rfl : m = 0 := by omega
    obtain rfl : L = [] := List.length_eq_zero_iff.1 hL
    refine crcSums_mid a0 a0 len0 cap0 0 hm hcap cut w 0 hk hkm (sv []) [] hL hB ⟨hT, hS, hST, fun h => absurd h (by simp)⟩ hq hr ?_ ?_
    · intro W
      rcases came_addr w0 with ⟨rfl, _, rfl⟩ | ⟨x, rfl⟩ <;> go_simp
    · intro W
      rcases came_addr w0 with ⟨rfl, _, rfl⟩ | ⟨x, rfl⟩ <;> go_simp
end Go.Proofs.YtkaigmgnmdhngaaDoor
