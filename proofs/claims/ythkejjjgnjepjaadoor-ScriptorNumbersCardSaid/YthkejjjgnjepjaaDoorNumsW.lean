/- ScriptorNumbers: from what the statement's arguments, and the listed tables, hold. -/
import Derived.Test.YthkejjjgnjepjaaDoorNums
import Derived.LaidMore
import Derived.Lib.LaidTab
import Derived.Lib.LaidU8
namespace Go.Proofs.YthkejjjgnjepjaaDoor
open Go.ChangeShapes Go.WideShapes Go.ChangeAt Go.RowKit

theorem gPow : Tryd.prog.globalNamed "internal/strconv.uint64pow10" = some 2 := by kernel_rfl
theorem tPow : (Tryd.prog.globals[2]?).map (·.type) = some 74 := by kernel_rfl
theorem cPow : Tryd.prog.cellsOf 74 = 20 := by kernel_rfl
theorem cU64 : Tryd.prog.cellsOf 27 = 1 := by kernel_rfl
theorem dPow : (Rows.laid_internal_strconv_uint64pow10 : DataW Unit) = Lib.tabData .u64 Lib.pow10Tab := by rfl
theorem dHalves : (Rows.laid_scriptor_crc_halves : DataW Unit) = Lib.tabData .u32 Fc.tab := by rfl
theorem tabs_of_laid {W : World} (h : laidMetH Tryd.prog [("math/bits.deBruijn32tab", Rows.laid_math_bits_deBruijn32tab), ("math/bits.deBruijn64tab", Rows.laid_math_bits_deBruijn64tab), ("internal/strconv.uint64pow10", Rows.laid_internal_strconv_uint64pow10), ("scriptor/crc.halves", Rows.laid_scriptor_crc_halves)] W) : Tabs W := by
  rw [MakeChecks.laidMetH_plain _ _ _ (by kernel_rfl)] at h
  constructor
  · obtain ⟨g, t, cs, fuel, p, hg, ht, hv, hd⟩ := Lib.laidMet.reads h (n := "internal/strconv.uint64pow10") (d := Rows.laid_internal_strconv_uint64pow10) (by simp)
    obtain rfl := Option.some.inj (gPow.symm.trans hg)
    obtain rfl := Option.some.inj (tPow.symm.trans ht)
    rw [dPow] at hd
    have := Lib.cells_of_tab Tryd.underlying74 Tryd.underlying27 cU64 cPow hd
    unfold Lib.TabIs
    rw [hv, ← this]
  · obtain ⟨g, t, cs, fuel, p, hg, ht, hv, hd⟩ := Lib.laidMet.reads h (n := "scriptor/crc.halves") (d := Rows.laid_scriptor_crc_halves) (by simp)
    obtain rfl := Option.some.inj (Fc.gTab.symm.trans hg)
    obtain rfl := Option.some.inj (Fc.tTab.symm.trans ht)
    rw [dHalves] at hd
    have h2 := Lib.cells_of_tab Tryd.underlying66 Tryd.underlying50 Fc.cU32 Fc.cTab hd
    have ht : Lib.TabIs Tryd.prog W "scriptor/crc.halves" .u32 Fc.tab := by
      unfold Lib.TabIs
      rw [hv, ← h2]
    intro i hi
    have hc := World.var?_cell Fc.gTab ht i
    have e := Fc.tab_is ⟨i, hi⟩
    have hl : i < Fc.tab.length := hi
    rw [← e]
    rw [hc]
    simp [List.getD, hl]
theorem least20 (x : Nat) : ∃ p, p ≤ x ∧ p ≤ 20 ∧ min (x : Int) 20 = (p : Int) := by
  rcases Nat.lt_or_ge 20 x with h | h
  · exact ⟨20, by omega, by omega, by omega⟩
  · exact ⟨x, by omega, by omega, by omega⟩
theorem bounds_u64 {n : Int} (h : (Lit.int .u64 n).wf = true) : 0 ≤ n ∧ n ≤ 18446744073709551615 := by
  simp [Lit.wf, IntKind.min, IntKind.max, IntKind.signed, IntKind.bits] at h
  exact ⟨by omega, by omega⟩
theorem spot_none {w : World} {x : Addr} {v : Value} (h : w.cell? (x.add 0) = some v) : ∃ g o, x = ⟨g, o, none⟩ := by
  obtain ⟨g, o, s⟩ := x
  cases s with
  | none => exact ⟨g, o, rfl⟩
  | some s =>
    simp [World.cell?, Addr.add] at h
    split at h <;> cases h
theorem scriptorNumbers_walk (a0 : Option Addr) (len0 cap0 : Nat) (z0 : List Int) (a1 : Option Addr) (len1 cap1 : Nat) (z1 : List Int) (a2 : Int) (w : World)
    (hl : laidMetH Tryd.prog [("math/bits.deBruijn32tab", Rows.laid_math_bits_deBruijn32tab), ("math/bits.deBruijn64tab", Rows.laid_math_bits_deBruijn64tab), ("internal/strconv.uint64pow10", Rows.laid_internal_strconv_uint64pow10), ("scriptor/crc.halves", Rows.laid_scriptor_crc_halves)] w)
    (w0 : (a0 = none ∧ len0 = 0 ∧ cap0 = 0 ∧ z0 = []) ∨ ∃ x, a0 = some x ∧ len0 ≤ cap0 ∧ cap0 ≤ maxLen ∧ z0.length = cap0 ∧ (∀ i, i < z0.length → w.cell? (x.add i) = some (.int .i64 (z0.getD i 0))) ∧ ∀ n ∈ z0, (Lit.int .i64 n).wf = true)
    (w1 : (a1 = none ∧ len1 = 0 ∧ cap1 = 0 ∧ z1 = []) ∨ ∃ x, a1 = some x ∧ len1 ≤ cap1 ∧ cap1 ≤ maxLen ∧ z1.length = cap1 ∧ (∀ i, i < z1.length → w.cell? (x.add i) = some (.int .u64 (z1.getD i 0))) ∧ ∀ n ∈ z1, (Lit.int .u64 n).wf = true) :
    Calls Tryd.prog 3 #[.slice a0 len0 cap0, .slice a1 len1 cap1, .int .i64 a2] w fun e w' => e = .returned (.bool true) ∧ Below w.heap.size w w' := by
  obtain ⟨p, hp0, hp, hmin0⟩ := least20 len0
  obtain ⟨q, hq0, hq, hmin1⟩ := least20 len1
  have h0 : len0 ≤ cap0 ∧ cap0 ≤ 9223372036854775807 ∧ ∃ ns : List Int, ns.length = p ∧ Fw.SrcI w a0 ns := by
    rcases w0 with ⟨rfl, rfl, rfl, rfl⟩ | ⟨x, rfl, h1, h2, h3, h4, h5⟩
    · exact ⟨by omega, by omega, [], by simp; omega, fun h => absurd h (by simp)⟩
    · refine ⟨h1, by unfold maxLen at h2; omega, z0.take p, by rw [List.length_take]; omega, fun hl => ?_⟩
      rw [List.length_take] at hl
      obtain ⟨g, o, rfl⟩ := spot_none (h4 0 (by omega))
      refine ⟨g, o, rfl, fun i hi => ?_⟩
      rw [List.length_take] at hi
      rw [← Fw.add_at, h4 i (by omega)]
      congr 2
      simp [List.getD, show i < p by omega]
  have h1 : len1 ≤ cap1 ∧ cap1 ≤ 9223372036854775807 ∧ ∃ fs : List Nat, fs.length = q ∧ (∀ x ∈ fs, x < 18446744073709551616) ∧ SrcU w a1 fs := by
    rcases w1 with ⟨rfl, rfl, rfl, rfl⟩ | ⟨x, rfl, h1, h2, h3, h4, h5⟩
    · exact ⟨by omega, by omega, [], by simp; omega, by simp, fun h => absurd h (by simp)⟩
    · refine ⟨h1, by unfold maxLen at h2; omega, (z1.take q).map Int.toNat, by rw [List.length_map, List.length_take]; omega, fun y hy => ?_, fun hl => ?_⟩
      · obtain ⟨z, hz, rfl⟩ := List.mem_map.1 hy
        have := bounds_u64 (h5 z (List.mem_of_mem_take hz))
        omega
      · rw [List.length_map, List.length_take] at hl
        obtain ⟨g, o, rfl⟩ := spot_none (h4 0 (by omega))
        refine ⟨g, o, rfl, fun i hi => ?_⟩
        rw [List.length_map, List.length_take] at hi
        have hi2 : i < z1.length := by omega
        rw [← Fw.add_at, h4 i (by omega)]
        have hb := bounds_u64 (h5 z1[i] (List.getElem_mem hi2))
        have e1 : z1.getD i 0 = z1[i] := by simp [List.getD, hi2]
        have e2 : ((z1.take q).map Int.toNat).getD i 0 = z1[i].toNat := by simp [List.getD, hi2, show i < q by omega]
        rw [e1, e2]
        congr 2
        omega
  obtain ⟨hc0, hm0, ns, hns, hSI⟩ := h0
  obtain ⟨hc1, hm1, fs, hfs, hF, hSU⟩ := h1
  exact nums_mid a0 a1 len0 cap0 len1 cap1 p q hp0 hq0 hp hq hc0 hc1 hm0 hm1 hmin0 hmin1 a2 w ns fs hns hfs hF hSI hSU (tabs_of_laid hl)
end Go.Proofs.YthkejjjgnjepjaaDoor
