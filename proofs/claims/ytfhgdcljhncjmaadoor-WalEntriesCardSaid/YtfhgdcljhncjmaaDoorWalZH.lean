/- A log whose power may go at any call: what each call leaves, by its records. -/
import Derived.Test.YtfhgdcljhncjmaaDoorWalZG
namespace Go.Proofs.YtfhgdcljhncjmaaDoor
open Go.ChangeShapes Go.WideShapes Go.ChangeAt Go.RowKit
set_option linter.unusedVariables false
set_option maxRecDepth 20000

/-- broken off: what a crash leaves is a log of such records, of whichever age -/
def Dn2 (P : List (List Nat) → Prop) (B : Nat) (w : World) (g A K : Nat) : Prop := ∃ s k, Da B w g 18 s k ∧ Fc.Tab w ∧ k ≤ K ∧ ∀ ns, CrashOf s ns → ∃ ag hd bs p, P bs ∧ ag ≤ (A : Int) ∧ LInv ns 2 16 ag hd bs p
section
variable {B : Nat} {w w' : World} {g l A K : Nat}
theorem ar_append {b0 : List (List Nat)} (h : Ar (· = b0) B w g l A K) (hK : K ≤ 30000) (b : List Nat) (n cap : Nat) (sp : Option Addr) (hn : b.length = n) (hn2 : n ≤ 1500) (hlc : n ≤ cap) (hb : ∀ x ∈ b, x < 256) (hS : Row8 B w sp b) :
    Calls Tryd.prog 12 #[.pointer (some ⟨l, 0, none⟩), .slice sp n cap] w fun e w' => ((e = .returned (.int .i64 0) ∧ Hid (Ar (· = b0 ++ [b]) B w' g l A (K + 20))) ∨ (e = .returned (.int .i64 7) ∧ Hid (Ar (· = b0) B w' g l A (K + 20))) ∨ (e = .returned (.int .i64 8) ∧ Hid (Dn2 (fun bs => bs = b0 ∨ bs = b0 ++ [b]) B w' g A (K + 20)))) ∧ Hid (Below B w w') ∧ Hid (KeepE g l w w') := by
  obtain ⟨s, ag, hd, bs, p, k, h1, rfl, h4, h5⟩ := h
  have hnd : need n ≤ 4 := by unfold need; omega
  by_cases hfit : p + need n ≤ 16
  · refine (lg_append h1 (by omega) b n cap sp hn (by omega) hlc hb hS hfit).mono ?_
    rintro e w' ⟨a0, a1, a2⟩
    refine ⟨?_, a1, a2⟩
    rcases a0 with ⟨rfl, s', h6, _, _⟩ | ⟨rfl, _, h6⟩
    · exact .inl ⟨rfl, Lib.hid ⟨s', ag, hd, _, _, _, h6.out, rfl, h4, by omega⟩⟩
    · obtain ⟨s', c1, c2, c3⟩ := h6.out
      refine .inr (.inr ⟨rfl, Lib.hid ⟨s', _, c1, c2, by omega, fun ns hc => ?_⟩⟩)
      rcases c3 ns hc with c4 | c4
      · exact ⟨ag, hd, _, p, .inl rfl, h4, c4⟩
      · exact ⟨ag, hd, _, _, .inr rfl, h4, c4⟩
  · refine (lg_full h1 n cap sp (by omega) (by omega)).mono ?_
    rintro e w' ⟨rfl, h6⟩
    exact ⟨.inr (.inl ⟨rfl, Lib.hid ⟨s, ag, hd, _, p, k, h1.below h6, rfl, h4, by omega⟩⟩), Lib.hid (h6.mono h1.size), Lib.hid (KeepE.of_keep (KeepT.of_below (g := g) h6))⟩
theorem ar_trunc {b0 : List (List Nat)} (h : Ar (· = b0) B w g l A K) (hK : K ≤ 30000) (hA : A ≤ 1000) :
    Calls Tryd.prog 13 #[.pointer (some ⟨l, 0, none⟩)] w fun e w' => ((e = .returned (.int .i64 0) ∧ Hid (Ar (· = []) B w' g l (A + 1) (K + 20))) ∨ (e = .returned (.int .i64 8) ∧ Hid (Dn2 (fun bs => bs = b0 ∨ bs = []) B w' g (A + 1) (K + 20)))) ∧ Hid (Below B w w') ∧ Hid (KeepE g l w w') := by
  obtain ⟨s, ag, hd, bs, p, k, h1, rfl, h4, h5⟩ := h
  refine (lg_trunc h1 (by omega) (by omega)).mono ?_
  rintro e w' ⟨a0, a1, a2⟩
  refine ⟨?_, a1, a2⟩
  rcases a0 with ⟨rfl, s', h6, _, _⟩ | ⟨rfl, _, h6⟩
  · exact .inl ⟨rfl, Lib.hid ⟨s', _, _, _, _, _, h6.out, rfl, by omega, by omega⟩⟩
  · obtain ⟨s', c1, c2, c3⟩ := h6.out
    refine .inr ⟨rfl, Lib.hid ⟨s', _, c1, c2, by omega, fun ns hc => ?_⟩⟩
    rcases c3 ns hc with c4 | c4
    · exact ⟨ag, hd, _, p, .inl rfl, by omega, c4⟩
    · exact ⟨ag + 1, 1 - hd, _, _, .inr rfl, by omega, c4⟩
theorem dn2_of {P : List (List Nat) → Prop} (h : Ar P B w g l A K) : Dn2 P B w g A K := by
  obtain ⟨s, ag, hd, bs, p, k, h1, h3, h4, h5⟩ := h
  exact ⟨s, k, h1.da, h1.tab, h5, fun ns hc => ⟨ag, hd, bs, p, h3, h4, h1.inv.crash h1.w0 ns hc⟩⟩
theorem dn2_crash {P : List (List Nat) → Prop} (h : Dn2 P B w g A K) (hK : K ≤ 1000000) (hG : 0 < B) (sp : Option Addr) (n cp : Nat) (pk : Nat → Int) (hpk : ∀ W', Below B w W' → ∀ i, i < n → ∃ g' o, sp = some ⟨g', o, none⟩ ∧ W'.cell? ⟨g', o + i, none⟩ = some (.int .i64 (pk i))) :
    Calls Tryd.prog 30 #[.pointer (some ⟨g, 0, none⟩), .slice sp n cp] w fun e w' => e = .returned (.tuple #[]) ∧ Hid (Up P B w' g A K) ∧ Hid (Below B w w') ∧ Hid (KeepT g w w') := by
  obtain ⟨s, k, h1, h2, h4, h5⟩ := h
  refine (da_crash h1 (by omega) sp n cp pk hpk).mono ?_
  rintro e w' ⟨rfl, ns, a1, a2, a3, a4⟩
  obtain ⟨ag, hd, bs, p, h6, h7, h8⟩ := h5 ns a1
  exact ⟨rfl, Lib.hid ⟨ns, ag, hd, bs, p, k, a2.out, tab_keep hG h2 a3.out, h7, h4, h6, h8⟩, a3, a4⟩
theorem up_again {P : List (List Nat) → Prop} (h : Up P B w g A K) (hG : 0 < B) :
    Calls Tryd.prog 18 #[.pointer (some ⟨g, 0, none⟩), .int .i64 2, .int .i64 14] w fun e w' => ∃ (l' : Nat) (a : Option Addr) (n c : Nat) (bs : List (List Nat)), e = .returned (.tuple #[.pointer (some ⟨l', 0, none⟩), .slice a n c, .int .i64 0]) ∧ n ≤ 1000 ∧ P bs ∧ Hid (RowB w' a n bs) ∧ Hid (St (· = bs) B w' g l' A K) ∧ Hid (Below w.heap.size w w') := by
  obtain ⟨ns, ag, hd, bs, p, k, h1, h2, h3, h4, h5, h6⟩ := h
  have hq : Quiet ⟨ns, [], false, 0, false⟩ := ⟨rfl, rfl, rfl⟩
  have hB := (da_lt h1).2.2
  have hcnt := h6.count
  refine (lg_open (f := 2) (en := 14) (da_quiet h1 hq) h6 (by decide) (by decide) (by decide) hG h2).mono ?_
  rintro e w' ⟨l', rs, rfl, a1, a2, a3, a4⟩
  obtain ⟨a, n, c, rfl, hR⟩ := rowb_recs a3.out
  have hn := hR.1
  exact ⟨l', a, n, c, bs, rfl, by omega, h5, Lib.hid hR, Lib.hid ⟨_, ag, hd, bs, p, k, ⟨da_below h1 a4.out, rfl, h6, a2.out, by omega, Fc.tab_later h2 a4.out, ⟨by decide, by decide⟩, hG⟩, hq, rfl, h3, h4⟩, a4⟩
end
end Go.Proofs.YtfhgdcljhncjmaaDoor
