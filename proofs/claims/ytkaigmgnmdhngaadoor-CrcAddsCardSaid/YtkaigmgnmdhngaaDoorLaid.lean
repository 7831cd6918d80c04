/- A row of bytes that came in; the table, out of the row's condition. -/
import Derived.Test.YtkaigmgnmdhngaaDoorFour
import Derived.LaidMore
import Derived.Lib.LaidTab
namespace Go.Proofs.YtkaigmgnmdhngaaDoor
open Go.ChangeShapes Go.WideShapes Go.ChangeAt Go.RowKit Go.Joins

/-- bytes that came in: nothing, or a row of cells -/
def Came (w : World) (a0 : Option Addr) (len0 cap0 : Nat) (z0 : List Int) : Prop :=
  (a0 = none ∧ len0 = 0 ∧ cap0 = 0 ∧ z0 = []) ∨ ∃ x, a0 = some x ∧ len0 ≤ cap0 ∧ cap0 ≤ maxLen ∧ z0.length = cap0 ∧ (∀ i, i < z0.length → w.cell? (x.add i) = some (.int .u8 (z0.getD i 0))) ∧ ∀ n ∈ z0, (Lit.int .u8 n).wf = true
theorem bounds_byte {n : Int} (h : (Lit.int .u8 n).wf = true) : 0 ≤ n ∧ n ≤ 255 := by
  simp [Lit.wf, IntKind.min, IntKind.max, IntKind.signed, IntKind.bits] at h
  omega
theorem came_le {w : World} {a0 : Option Addr} {len0 cap0 : Nat} {z0 : List Int} (h : Came w a0 len0 cap0 z0) : len0 ≤ cap0 ∧ cap0 ≤ 9223372036854775807 := by
  rcases h with ⟨_, h1, h2, _⟩ | ⟨_, _, h1, h2, _⟩
  · omega
  · unfold maxLen at h2; omega
theorem came_addr {w : World} {a0 : Option Addr} {len0 cap0 : Nat} {z0 : List Int} (h : Came w a0 len0 cap0 z0) : (a0 = none ∧ len0 = 0 ∧ cap0 = 0) ∨ ∃ x, a0 = some x := by
  rcases h with ⟨h0, h1, h2, _⟩ | ⟨x, h, _⟩
  · exact .inl ⟨h0, h1, h2⟩
  · exact .inr ⟨x, h⟩
theorem came_src {w : World} {a0 : Option Addr} {len0 cap0 : Nat} {z0 : List Int} (w0 : Came w a0 len0 cap0 z0) (m : Nat) (hm : m ≤ len0) : ∃ L : List Nat, L.length = m ∧ (∀ b ∈ L, b < 256) ∧ Src w a0 L := by
  rcases w0 with ⟨rfl, rfl, rfl, rfl⟩ | ⟨x, rfl, h1, h2, h3, h4, h5⟩
  · exact ⟨[], by simp; omega, by simp, fun h => absurd h (by simp)⟩
  · have hb : ∀ z ∈ z0, 0 ≤ z ∧ z ≤ 255 := fun z hz => bounds_byte (h5 z hz)
    refine ⟨(z0.take m).map Int.toNat, by simp; omega, ?_, fun hp => ?_⟩
    · intro b hb'
      obtain ⟨z, hz, rfl⟩ := List.mem_map.1 hb'
      have := hb z (List.mem_of_mem_take hz)
      omega
    · have hm0 : 0 < m := by simp at hp; omega
      obtain ⟨g, o, s⟩ := x
      have hs : s = none := by
        have h0 := h4 0 (by omega)
        cases s with
        | none => rfl
        | some s =>
          simp [World.cell?, Addr.add] at h0
          split at h0 <;> cases h0
      subst hs
      refine ⟨g, o, rfl, fun i hi => ?_⟩
      have hi2 : i < m := by simp at hi; omega
      have hi3 : i < z0.length := by omega
      have e : (⟨g, o, none⟩ : Addr).add i = ⟨g, o + i, none⟩ := by unfold Addr.add; split <;> simp_all
      rw [← e, h4 i hi3]
      have hz := hb z0[i] (List.getElem_mem hi3)
      have e1 : z0.getD i 0 = z0[i] := by simp [List.getD, hi3]
      have e2 : ((z0.take m).map Int.toNat).getD i 0 = z0[i].toNat := by simp [List.getD, hi3, hi2]
      rw [e1, e2]
      congr 2; omega
/-- a row as a text, nothing too -/
theorem src_conv0 {w : World} {a0 : Option Addr} {L : List Nat} (h : Src w a0 L) (cap : Nat) (ha : a0 = none → L.length = 0) : (convert 22 9 (.slice a0 L.length cap)).run Tryd.prog w = .ok (.string (sv L)) w := by
  by_cases hp : 0 < L.length
  · exact src_conv h cap hp
  · obtain rfl : L = [] := List.length_eq_zero_iff.1 (by omega)
    have e : sv [] = ⟨#[]⟩ := rfl
    rw [e]
    cases a0 <;> (simp only [List.length_nil]; go_simp <;> rfl)
theorem src_take {w : World} {sp : Option Addr} {L : List Nat} (h : Src w sp L) (k : Nat) : Src w sp (L.take k) := fun hp => by
  simp only [List.length_take] at hp
  obtain ⟨g, o, e, hc⟩ := h (by omega)
  refine ⟨g, o, e, fun i hi => ?_⟩
  simp only [List.length_take] at hi
  rw [hc i (by omega)]
  congr 2
  simp [List.getD, show i < k by omega]
theorem src_drop {w : World} {g o : Nat} {L : List Nat} (h : Src w (some ⟨g, o, none⟩) L) (k : Nat) : Src w (some ⟨g, o + k, none⟩) (L.drop k) := fun hp => by
  simp only [List.length_drop] at hp
  obtain ⟨g', o', e, hc⟩ := h (by omega)
  cases e
  refine ⟨g, o + k, rfl, fun i hi => ?_⟩
  simp only [List.length_drop] at hi
  rw [Nat.add_assoc, hc (k + i) (by omega)]
  congr 2
  simp [List.getD, List.getElem?_drop]

theorem gTab : Tryd.prog.globalNamed "scriptor/crc.halves" = some 0 := by kernel_rfl
theorem tTab : (Tryd.prog.globals[0]?).map (·.type) = some 41 := by kernel_rfl
theorem cTab : Tryd.prog.cellsOf 41 = 16 := by kernel_rfl
theorem cU32 : Tryd.prog.cellsOf 25 = 1 := by kernel_rfl
/-- the row's condition gives the table's cells -/
theorem tab_of_laid {W : World} (h : laidMetH Tryd.prog [("scriptor/crc.halves", Rows.laid_scriptor_crc_halves)] W) : Tab W := by
  rw [MakeChecks.laidMetH_plain _ _ _ (by kernel_rfl)] at h
  have ht : Lib.TabIs Tryd.prog W "scriptor/crc.halves" .u32 tab := Lib.tabIs_of_head gTab tTab Tryd.underlying41 Tryd.underlying25 cU32 cTab h
  intro i hi
  have hc := World.var?_cell gTab ht i
  have e := tab_is ⟨i, hi⟩
  have hl : i < tab.length := hi
  rw [← e]
  rw [hc]
  simp [List.getD, hl]
end Go.Proofs.YtkaigmgnmdhngaaDoor
