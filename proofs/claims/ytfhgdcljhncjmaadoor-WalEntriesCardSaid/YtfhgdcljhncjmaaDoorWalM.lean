/- Sectors that the log makes, II: what the calls that make them give. -/
import Derived.Test.YtfhgdcljhncjmaaDoorWalS
import Derived.Lib.SlBytesConst
namespace Go.Proofs.YtfhgdcljhncjmaaDoor
open Go.ChangeShapes Go.WideShapes Go.ChangeAt Go.RowKit
set_option linter.unusedVariables false
set_option maxRecDepth 20000

/-- a part as an append takes it -/
def Nilly (p : Option Addr) (cap : Nat) : Prop := (p = none ∧ cap = 0) ∨ ∃ x, p = some x
def PartsIn (w : World) (sp : Option Addr) (ps : List Fc.Part) : Prop := ∀ (i : Nat) p, ps[i]? = some p → ∃ g o, sp = some ⟨g, o, none⟩ ∧ w.cell? ⟨g, o + i, none⟩ = some (.slice p.1 p.2.2.length p.2.1) ∧ Fc.Src w p.1 p.2.2 ∧ Nilly p.1 p.2.1
theorem all_le (ps : List Fc.Part) (k : Nat) : (Fc.all (ps.take k)).length ≤ (Fc.all ps).length := by
  have e : Fc.all ps = Fc.all (ps.take k) ++ Fc.all (ps.drop k) := by unfold Fc.all; rw [← List.flatMap_append, List.take_append_drop]
  rw [e, List.length_append]; omega
theorem partsIn_later {w w' : World} {sp : Option Addr} {ps : List Fc.Part} (h : PartsIn w sp ps) (hb : Below w.heap.size w w') : PartsIn w' sp ps := fun i p hp => by
  obtain ⟨g, o, e, hc, hs, hn⟩ := h i p hp
  exact ⟨g, o, e, by rw [hb.cell (World.block_lt_of_cell? w _ hc)]; exact hc, Fc.src_later hs hb, hn⟩
theorem sec_start (w : World) : (Instr.makeSlice 34 (.int .i64 0) (.int .i64 512)).run Tryd.prog w = .ok (.slice (some ⟨w.heap.size, 0, none⟩) 0 512) (w.alloc (.cells (Fc.cells (List.replicate 512 0)).toArray 5)) := Fc.mk_bytes0 512 (by decide) w
theorem sec_row0 (w : World) : SecRow (w.alloc (.cells (Fc.cells (List.replicate 512 0)).toArray 5)) w.heap.size [] := by
  unfold SecRow padL
  rw [heap_alloc_new]
  rfl
theorem sector_any (sp : Option Addr) (cap : Nat) (ps : List Fc.Part) (hn : ps.length ≤ 5) (hl : (Fc.all ps).length ≤ 512) (w : World) (hc : Hid (PartsIn w sp ps)) :
    Calls Tryd.prog 47 #[.slice sp ps.length cap] w fun e w' => e = .returned (.slice (some ⟨w.heap.size, 0, none⟩) 512 512) ∧ SecRow w' w.heap.size (Fc.all ps) ∧ Below w.heap.size w w' ∧ w.heap.size < w'.heap.size := by
  obtain ⟨n, hL⟩ : ∃ n, ps.length = n := ⟨_, rfl⟩
  have HL : Hid (True → ps.length = n) := Lib.hid fun _ => hL
  rw [hL] at hn ⊢
  clear hL
  have hmk := sec_start w
  have hr0 := Lib.hid (sec_row0 w)
  have hb0 : Below w.heap.size w (w.alloc (.cells (Fc.cells (List.replicate 512 0)).toArray 5)) := (Below.refl _ w).alloc (Nat.le_refl _) _
  have hl0 : w.heap.size < (w.alloc (.cells (Fc.cells (List.replicate 512 0)).toArray 5)).heap.size := by simp
  generalize (w.alloc (.cells (Fc.cells (List.replicate 512 0)).toArray 5)) = w1 at *
  have HB0 := Lib.hid hb0
  have HL0 := Lib.hid hl0
  have Hl := Lib.hid hl
  clear hb0 hl hl0
  go_enter Tryd.func47, Tryd.ntmps47
  go_wp2_with fail
  go_loopw [3, 9] (fun s i wr => ∃ m k : Nat, s = .slice (some ⟨w.heap.size, 0, none⟩) m 512 ∧ i = .int .i64 (k : Int) ∧ k ≤ n ∧ Hid (True → m = (Fc.all (ps.take k)).length) ∧ m ≤ 512 ∧ Hid (SecRow wr w.heap.size (Fc.all (ps.take k))) ∧ Hid (Below w.heap.size w wr) ∧ Hid (w.heap.size < wr.heap.size)) (fun _ i _ => n - (intOf i).toNat)
  case atStart => exact ⟨0, 0, rfl, rfl, by omega, Lib.hid fun _ => by rw [List.take_zero]; rfl, by omega, by rw [List.take_zero]; exact hr0, HB0, HL0⟩
  case round =>
    obtain ⟨m, k, rfl, rfl, hkn, hm, hm5, hrow, hbel, hlt⟩ := hrel
    by_cases hk : k < n
    · obtain ⟨p, hp⟩ : ∃ p, ps[k]? = some p := ⟨_, List.getElem?_eq_getElem (by rw [HL.out trivial]; exact hk)⟩
      obtain ⟨g, o, hsp, hcell0, hsrc', hnil⟩ := hc.out k p hp
      subst hsp
      have hcell : wr.cell? ⟨g, o + k, none⟩ = some (.slice p.1 p.2.2.length p.2.1) := by rw [hbel.out.cell (World.block_lt_of_cell? w _ hcell0)]; exact hcell0
      have hroom : (Fc.all (ps.take k)).length + p.2.2.length ≤ 512 := by
        have h1 := all_le ps (k + 1)
        rw [Fc.all_snoc ps k p hp, List.length_append] at h1
        exact Nat.le_trans h1 Hl.out
      obtain ⟨w2, hrun, hrow2, hbel2⟩ := put_more w wr w.heap.size w.heap.size 34 (Fc.all (ps.take k)) p.2.2 p.1 p.2.1 hrow.out hroom (Fc.src_later hsrc' hbel.out) hnil hbel.out (Nat.le_refl _)
      rw [← hm.out trivial] at hrun
      have hlt2 : w.heap.size < w2.heap.size := (Array.getElem?_eq_some_iff.1 hrow2).1
      have hm2 : m + p.2.2.length ≤ 512 := by rw [hm.out trivial]; exact hroom
      have HM : Hid (True → m + p.2.2.length = (Fc.all (ps.take (k + 1))).length) := Lib.hid fun _ => by rw [Fc.all_snoc ps k p hp, List.length_append, hm.out trivial]
      have HR := Lib.hid hrow2
      rw [← Fc.all_snoc ps k p hp] at HR
      have HBe := Lib.hid hbel2
      have HLt := Lib.hid hlt2
      obtain ⟨q, hq⟩ : ∃ q, p.2.2.length = q := ⟨_, rfl⟩
      rw [hq] at hrun hcell hm2 HM
      clear hsrc' hnil hroom hrow2 hbel2 hlt2 hrow hm hcell0 hq hp
      go_wp2_with (at_builtin; refine Fc.wpList_call_exact rfl _ _ 34 rfl _ _ _ _ rfl rfl hrun ?_)
      go_roundw
      case rel => exact ⟨m + q, k + 1, rfl, by go_num, by omega, HM, hm2, HR, HBe, HLt⟩
      case measure => simp [intOf]; omega
    · have HX : Hid (True → Fc.all (ps.take k) = Fc.all ps) := Lib.hid fun _ => by rw [List.take_of_length_le (by rw [HL.out trivial]; omega)]
      rw [HX.out trivial] at hrow
      clear hm
      go_wp2_with fail
      go_ret
      exact ⟨rfl, hrow.out, hbel.out, hlt.out⟩
/-- no parts; two -/
theorem sector_none (w : World) : Calls Tryd.prog 47 #[.slice none 0 0] w fun e w' => e = .returned (.slice (some ⟨w.heap.size, 0, none⟩) 512 512) ∧ SecRow w' w.heap.size [] ∧ Below w.heap.size w w' ∧ w.heap.size < w'.heap.size :=
  sector_any none 0 [] (by decide) (by decide) w (Lib.hid fun i p hp => by simp at hp)
theorem sector_one (W : World) (g : Nat) (hg : g = W.heap.size) (sp : Option Addr) (cap n : Nat) (L : List Nat) (hL : L.length = n) (hn : n ≤ 512) (hS : Hid (Fc.Src W sp L)) (hN : Nilly sp cap) :
    Calls Tryd.prog 47 #[.slice (some ⟨g, 0, none⟩) 1 1] (W.alloc (.cells #[.slice sp n cap] 34)) fun e w' => ∃ g', e = .returned (.slice (some ⟨g', 0, none⟩) 512 512) ∧ W.heap.size ≤ g' ∧ SecRow w' g' L ∧ Below W.heap.size W w' ∧ g' < w'.heap.size := by
  subst hg hL
  have hb : Below W.heap.size W (W.alloc (.cells #[.slice sp L.length cap] 34)) := (Below.refl _ W).alloc (Nat.le_refl _) _
  have e : Fc.all [(sp, cap, L)] = L := by simp [Fc.all]
  have h := sector_any (some ⟨W.heap.size, 0, none⟩) 1 [(sp, cap, L)] (show 1 ≤ 5 by decide) (by rw [e]; exact hn) (W.alloc (.cells #[.slice sp L.length cap] 34)) (Lib.hid (fun i p hp => by
    match i, hp with
    | 0, hp =>
      simp at hp; subst hp
      exact ⟨W.heap.size, 0, rfl, by simp [World.cell?, Fc.heap_alloc], Fc.src_later hS.out hb, hN⟩
    | n + 1, hp => simp at hp))
  rw [e] at h
  refine h.mono ?_
  rintro e w' ⟨rfl, h1, h2, h3⟩
  exact ⟨_, rfl, hb.size, h1, hb.trans (h2.mono hb.size), h3⟩
theorem sector_two (W : World) (g : Nat) (hg : g = W.heap.size) (sp sq : Option Addr) (cap caq n q : Nat) (L M : List Nat) (hL : L.length = n) (hM : M.length = q) (hn : n + q ≤ 512) (hS : Hid (Fc.Src W sp L)) (hT : Hid (Fc.Src W sq M)) (hN : Nilly sp cap) (hO : Nilly sq caq) :
    Calls Tryd.prog 47 #[.slice (some ⟨g, 0, none⟩) 2 2] (W.alloc (.cells #[.slice sp n cap, .slice sq q caq] 34)) fun e w' => ∃ g', e = .returned (.slice (some ⟨g', 0, none⟩) 512 512) ∧ W.heap.size ≤ g' ∧ SecRow w' g' (L ++ M) ∧ Below W.heap.size W w' ∧ g' < w'.heap.size := by
  subst hg hL hM
  have hb : Below W.heap.size W (W.alloc (.cells #[.slice sp L.length cap, .slice sq M.length caq] 34)) := (Below.refl _ W).alloc (Nat.le_refl _) _
  have e : Fc.all [(sp, cap, L), (sq, caq, M)] = L ++ M := by simp [Fc.all]
  have h := sector_any (some ⟨W.heap.size, 0, none⟩) 2 [(sp, cap, L), (sq, caq, M)] (show 2 ≤ 5 by decide) (by rw [e, List.length_append]; exact hn) (W.alloc (.cells #[.slice sp L.length cap, .slice sq M.length caq] 34)) (Lib.hid (fun i p hp => by
    match i, hp with
    | 0, hp =>
      simp at hp; subst hp
      exact ⟨W.heap.size, 0, rfl, by simp [World.cell?, Fc.heap_alloc], Fc.src_later hS.out hb, hN⟩
    | 1, hp =>
      simp at hp; subst hp
      exact ⟨W.heap.size, 0, rfl, by simp [World.cell?, Fc.heap_alloc], Fc.src_later hT.out hb, hO⟩
    | n + 2, hp => simp at hp))
  rw [e] at h
  refine h.mono ?_
  rintro e w' ⟨rfl, h1, h2, h3⟩
  exact ⟨_, rfl, hb.size, h1, hb.trans (h2.mono hb.size), h3⟩
/-- a text as bytes -/
theorem read_src {w : World} {g : Nat} {s : ByteArray} (h : ∀ j, j < s.size → w.cell? ⟨g, j, none⟩ = some (.int .u8 (s.data.toList.getD j 0).toNat)) : Fc.Src w (some ⟨g, 0, none⟩) (Fw.bytesOf s) := fun _ => ⟨g, 0, rfl, fun i hi => by
  rw [Nat.zero_add, h i (by rwa [Fw.bytesOf_len] at hi)]
  rw [Fw.bytesOf_len] at hi
  have hi2 : i < s.data.toList.length := by simpa using hi
  simp [Fw.bytesOf, List.getD, hi]⟩
theorem part_any (sp : Option Addr) (cap : Nat) (L : List Nat) (hl : L.length ≤ 511) (w : World) (hS : Hid (Fc.Src w sp L)) (hN : Hid (Nilly sp cap)) :
    Calls Tryd.prog 55 #[.slice sp L.length cap] w fun e w' => ∃ g, e = .returned (.slice (some ⟨g, 0, none⟩) 512 512) ∧ w.heap.size ≤ g ∧ SecRow w' g (partL L) ∧ Below w.heap.size w w' ∧ g < w'.heap.size := by
  obtain ⟨n, hL⟩ : ∃ n, L.length = n := ⟨_, rfl⟩
  have HL : Hid (True → L.length = n) := Lib.hid fun _ => hL
  rw [hL] at hl ⊢
  clear hL
  have h0 : Below w.heap.size w (w.alloc (.cells #[.int .u8 68] 5 (1, 2))) := (Below.refl _ w).alloc (Nat.le_refl _) _
  have h1 : Fc.Src (w.alloc (.cells #[.int .u8 68] 5 (1, 2))) (some ⟨w.heap.size, 0, none⟩) [68] := fun _ => ⟨w.heap.size, 0, rfl, fun i hi => by
    obtain rfl : i = 0 := by simp at hi; omega
    simp [World.cell?, Fc.heap_alloc]⟩
  have h2 : Fc.Src (w.alloc (.cells #[.int .u8 68] 5 (1, 2))) sp L := Fc.src_later hS.out h0
  have HT := Lib.hid (sector_two (w.alloc (.cells #[.int .u8 68] 5 (1, 2))) (w.heap.size + 1) (by simp) (some ⟨w.heap.size, 0, none⟩) sp 1 cap 1 n [68] L rfl (HL.out trivial) (by omega) (Lib.hid h1) (Lib.hid h2) (.inr ⟨_, rfl⟩) hN.out)
  have HB := Lib.hid h0
  have kc := fun (w : World) (C : Array Value) (n c : Nat) => Lib.run_convert_bytes_const (P := Tryd.prog) w 34 5 C n c Tryd.underlying34 Tryd.underlying5
  clear h0 h1 h2 hS hN
  go_enter Tryd.func55, Tryd.ntmps55
  go_wp2_with fail
  refine HT.out.mono ?_
  rintro e w' ⟨g, rfl, a1, a2, a3, a4⟩
  go_wp2_with fail
  go_ret
  exact ⟨g, rfl, Nat.le_trans HB.out.size a1, a2, HB.out.trans (a3.mono HB.out.size), a4⟩
end Go.Proofs.YtfhgdcljhncjmaaDoor
