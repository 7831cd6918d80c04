/- The scanner of package lex: blanks and comments. -/
import Derived.Test.YtfpjeokncdlofaaLexA
import Derived.Deep.LoopGhost
namespace Go.Proofs.Ytfpjeokncdlofaa
open Go.ChangeShapes Go.WideShapes Go.ChangeAt Go.RowKit
open Go.Proofs.Ytfpjeokncdlofaa.Fn (st st_size st_list st_extract)
set_option linter.unusedVariables false
set_option maxRecDepth 20000

/-- room for all places that are to come -/
def Fit (l : List UInt8) (p : Nat × Nat) : Prop := p.1 + l.length ≤ 200000 ∧ p.2 + l.length ≤ 200000 ∧ l.length ≤ 199999
theorem Fit.tail {c : UInt8} {t : List UInt8} {p : Nat × Nat} (h : Fit (c :: t) p) : Fit t (adv c p) := by
  obtain ⟨h1, h2, h3⟩ := h
  rw [List.length_cons] at h1 h2 h3
  unfold adv
  split
  · exact ⟨by show p.1 + 1 + t.length ≤ _; omega, by show 1 + t.length ≤ _; omega, by omega⟩
  · exact ⟨by show p.1 + t.length ≤ _; omega, by show p.2 + 1 + t.length ≤ _; omega, by omega⟩
theorem Fit.lt {l : List UInt8} {p : Nat × Nat} (h : Fit l p) : p.1 ≤ 1000000 ∧ p.2 ≤ 1000000 := by obtain ⟨h1, h2, h3⟩ := h; omega
/-- behind a line's bytes -/
def skipL : List UInt8 → Nat × Nat → List UInt8 × (Nat × Nat)
  | [], p => ([], p)
  | c :: t, p => if c = 10 then (c :: t, p) else skipL t (adv c p)
def blankB (c : UInt8) : Bool := c == 32 || c == 9 || c == 10
/-- behind blanks and comments -/
def skipB : Bool → List UInt8 → Nat × Nat → List UInt8 × (Nat × Nat)
  | _, [], p => ([], p)
  | true, c :: t, p => if c = 10 then skipB false t (adv c p) else skipB true t (adv c p)
  | false, c :: t, p => if blankB c = true then skipB false t (adv c p) else if c = 59 then skipB true t (adv c p) else (c :: t, p)
theorem skipB_line : ∀ (l : List UInt8) (p : Nat × Nat), skipB true l p = skipB false (skipL l p).1 (skipL l p).2
  | [], p => rfl
  | c :: t, p => by
    rw [skipB, skipL]
    by_cases h : c = 10
    · rw [if_pos h, if_pos h]
      show _ = skipB false (c :: t) p
      rw [skipB, if_pos (by rw [h]; rfl)]
    · rw [if_neg h, if_neg h]
      exact skipB_line t (adv c p)
theorem skipL_fit : ∀ (l : List UInt8) (p : Nat × Nat), Fit l p → Fit (skipL l p).1 (skipL l p).2 ∧ (skipL l p).1.length ≤ l.length
  | [], p, h => ⟨h, Nat.le_refl _⟩
  | c :: t, p, h => by
    rw [skipL]
    split
    · exact ⟨h, Nat.le_refl _⟩
    · obtain ⟨h1, h2⟩ := skipL_fit t (adv c p) h.tail
      exact ⟨h1, Nat.le_trans h2 (by simp)⟩
theorem skipB_fit : ∀ (b : Bool) (l : List UInt8) (p : Nat × Nat), Fit l p → Fit (skipB b l p).1 (skipB b l p).2 ∧ (skipB b l p).1.length ≤ l.length
  | b, [], p, h => by cases b <;> exact ⟨h, Nat.le_refl _⟩
  | true, c :: t, p, h => by
    rw [skipB]
    split
    · obtain ⟨h1, h2⟩ := skipB_fit false t (adv c p) h.tail
      exact ⟨h1, Nat.le_trans h2 (by simp)⟩
    · obtain ⟨h1, h2⟩ := skipB_fit true t (adv c p) h.tail
      exact ⟨h1, Nat.le_trans h2 (by simp)⟩
  | false, c :: t, p, h => by
    rw [skipB]
    split
    · obtain ⟨h1, h2⟩ := skipB_fit false t (adv c p) h.tail
      exact ⟨h1, Nat.le_trans h2 (by simp)⟩
    · split
      · obtain ⟨h1, h2⟩ := skipB_fit true t (adv c p) h.tail
        exact ⟨h1, Nat.le_trans h2 (by simp)⟩
      · exact ⟨h, Nat.le_refl _⟩
theorem sc_only {w w' : World} {g : Nat} {l : List UInt8} {ln cl : Nat} {S : Nat → Prop} (h : Sc w g l ln cl) (ho : Only S w w') (hs : ¬ S g) : Sc w' g l ln cl := by
  unfold Sc at h ⊢
  rw [ho.block g (sc_lt h) hs]; exact h
set_option maxHeartbeats 1000000 in
theorem skipLine_any (g : Nat) (l : List UInt8) (p : Nat × Nat) (hf : Fit l p) (w : World) (h : Hid (Sc w g l p.1 p.2)) :
    Calls Try.prog 34 #[.pointer (some ⟨g, 0, none⟩)] w fun e w' => e = .returned (.tuple #[]) ∧ Hid (Sc w' g (skipL l p).1 (skipL l p).2.1 (skipL l p).2.2) ∧ Hid (Only (· = g) w w') := by
  obtain ⟨R, hR⟩ : ∃ R, skipL l p = R := ⟨_, rfl⟩
  rw [hR]
  have H0 : Hid (skipL l p = R ∧ Fit l p ∧ Sc w g l p.1 p.2) := Lib.hid ⟨hR, hf, h.out⟩
  clear hR hf h
  go_enter Try.func34, Try.ntmps34
  go_wp2_with fail
  go_loopg [] (l.length) (fun k wr => ∃ (m : List UInt8) (q : Nat × Nat), Hid (m.length = k) ∧ Hid (skipL m q = R ∧ Fit m q ∧ Sc wr g m q.1 q.2) ∧ Hid (Only (· = g) w wr))
  case atStart => exact ⟨l, p, Lib.hid rfl, H0, Lib.hid (Only.refl _ _)⟩
  case round =>
    obtain ⟨m, q, HK, HS, HO⟩ := hrel
    obtain ⟨wo, rfl⟩ : ∃ wo : World, wo = wr := ⟨_, rfl⟩
    have HE := Lib.hid (ended_any g m q.1 q.2 wo (Lib.hid HS.out.2.2))
    cases m with
    | nil =>
      have HR : Hid (([], q) = R) := Lib.hid HS.out.1
      go_wp2_with fail
      refine HE.out.mono ?_
      rintro e w2 ⟨rfl, rfl⟩
      go_wp2_with fail
      first | go_end0 | refine bodyPost_ret (results_none rfl _ _ _) rfl ?_
      rw [← HR.out]
      exact ⟨rfl, Lib.hid HS.out.2.2, HO⟩
    | cons c t =>
      have hd : decide (c :: t = ([] : List UInt8)) = false := rfl
      rw [hd] at HE
      obtain ⟨c0, c1, c2⟩ := sc_cells HS.out.2.2
      have hix := idx0 c t
      have HN := Lib.hid (fun W h => next_any g c t q.1 q.2 HS.out.2.1.lt.1 HS.out.2.1.lt.2 W h)
      obtain ⟨s0, hs0⟩ : ∃ s, st (c :: t) = s := ⟨_, rfl⟩
      rw [hs0] at hix c0
      obtain ⟨x, hx⟩ : ∃ x, c.toNat = x := ⟨_, rfl⟩
      rw [hx] at hix HN
      clear hs0
      by_cases h10 : c = 10
      · have hx10 : x = 10 := by rw [← hx, h10]; rfl
        subst hx10
        clear hx
        have HR : Hid ((c :: t, q) = R) := Lib.hid (by rw [← HS.out.1, skipL, if_pos h10])
        clear h10
        go_wp2_with fail
        refine HE.out.mono ?_
        rintro e w2 ⟨rfl, rfl⟩
        go_wp2_with fail
        first | go_end0 | refine bodyPost_ret (results_none rfl _ _ _) rfl ?_
        rw [← HR.out]
        exact ⟨rfl, Lib.hid HS.out.2.2, HO⟩
      · have hx10 : ¬ ((x : Int) = 10) := fun e => h10 (UInt8.toNat_inj.1 (by rw [hx]; show x = 10; omega))
        have hbe : ((x : Int) == 10) = false := by simp [hx10]
        have HR : Hid (skipL t (adv c q) = R) := Lib.hid (by rw [← HS.out.1, skipL, if_neg h10])
        clear h10 hx
        go_wp2_with fail
        refine HE.out.mono ?_
        rintro e w2 ⟨rfl, rfl⟩
        go_wp2_with fail
        refine (HN.out wo (Lib.hid HS.out.2.2)).mono ?_
        rintro e w3 ⟨rfl, hs3, ho3⟩
        have HS3 : Hid (skipL t (adv c q) = R ∧ Fit t (adv c q) ∧ Sc w3 g t (adv c q).1 (adv c q).2) := Lib.hid ⟨HR.out, HS.out.2.1.tail, hs3.out⟩
        have HO3 : Hid (Only (· = g) w w3) := Lib.hid (HO.out.trans ho3.out)
        have HK3 : Hid (t.length + 1 = gk) := Lib.hid (by have := HK.out; simpa using this)
        clear HN HE HR HS HO hs3 ho3 HK c0 c1 c2
        go_wp2_with fail
        go_roundg (t.length)
        case measure => have := HK3.out; omega
        case rel => exact ⟨t, adv c q, Lib.hid rfl, HS3, HO3⟩
end Go.Proofs.Ytfpjeokncdlofaa
