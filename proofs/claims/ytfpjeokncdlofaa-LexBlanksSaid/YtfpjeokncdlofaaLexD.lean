/- The scanner of package lex: a word; a byte told behind a backslash. -/
import Derived.Test.YtfpjeokncdlofaaLexC
namespace Go.Proofs.Ytfpjeokncdlofaa
open Go.ChangeShapes Go.WideShapes Go.ChangeAt Go.RowKit
open Go.Proofs.Ytfpjeokncdlofaa.Fn (st st_size st_list st_extract)
set_option linter.unusedVariables false
set_option maxRecDepth 20000

/-- a word's bytes, what is left, and its place -/
def wordB : List UInt8 → Nat × Nat → List UInt8 × List UInt8 × (Nat × Nat)
  | [], p => ([], [], p)
  | c :: t, p => if ofW c = true then (c :: (wordB t (adv c p)).1, (wordB t (adv c p)).2) else ([], c :: t, p)
theorem wordB_append : ∀ (l : List UInt8) (p : Nat × Nat), l = (wordB l p).1 ++ (wordB l p).2.1
  | [], p => rfl
  | c :: t, p => by
    rw [wordB]
    split
    · show c :: t = c :: ((wordB t (adv c p)).1 ++ (wordB t (adv c p)).2.1)
      rw [← wordB_append t (adv c p)]
    · rfl
theorem wordB_fit : ∀ (l : List UInt8) (p : Nat × Nat), Fit l p → Fit (wordB l p).2.1 (wordB l p).2.2 ∧ (wordB l p).2.1.length ≤ l.length
  | [], p, h => ⟨h, Nat.le_refl _⟩
  | c :: t, p, h => by
    rw [wordB]
    split
    · obtain ⟨h1, h2⟩ := wordB_fit t (adv c p) h.tail
      exact ⟨h1, Nat.le_trans h2 (by simp)⟩
    · exact ⟨h, Nat.le_refl _⟩
set_option maxHeartbeats 2000000 in
theorem word_any (g : Nat) (l : List UInt8) (p : Nat × Nat) (hf : Fit l p) (w : World) (h : Hid (Sc w g l p.1 p.2)) :
    Calls Try.prog 37 #[.pointer (some ⟨g, 0, none⟩)] w fun e w' => e = .returned (.string (st (wordB l p).1)) ∧ Hid (Sc w' g (wordB l p).2.1 (wordB l p).2.2.1 (wordB l p).2.2.2) ∧ Hid (Only (· = g) w w') := by
  obtain ⟨R, hR⟩ : ∃ R, (wordB l p).2 = R := ⟨_, rfl⟩
  obtain ⟨W0, hW0⟩ : ∃ W, (wordB l p).1 = W := ⟨_, rfl⟩
  have hap := wordB_append l p
  rw [hW0, hR] at hap
  have hll : l.length ≤ 199999 := hf.2.2
  rw [hR, hW0]
  have H0 : Hid ((wordB l p).2 = R ∧ Fit l p ∧ Sc w g l p.1 p.2) := Lib.hid ⟨hR, hf, h.out⟩
  have HAp := Lib.hid (fun _ : True => hap)
  obtain ⟨c0, _, _⟩ := sc_cells h.out
  obtain ⟨s, hs⟩ : ∃ s, st l = s := ⟨_, rfl⟩
  rw [hs] at c0
  have HSz : Hid (s.size = l.length) := Lib.hid (by rw [← hs, st_size])
  have hlen : R.1.length ≤ l.length := by rw [hap, List.length_append]; omega
  have hsz : s.size = l.length := HSz.out
  have hw1 : IntKind.i64.wrap ((s.size : Int) - (R.1.length : Int)) = (W0.length : Int) := by
    have h2 : l.length = W0.length + R.1.length := by rw [← List.length_append, ← hap]
    rw [IntKind.wrap_i64]; omega
  have hsl : ∀ W, (Instr.slice 9 (.string s) none (some (.int .i64 (W0.length : Int))) none).run Try.prog W = .ok (.string (st W0)) W := fun W => by
    have h2 : l.length = W0.length + R.1.length := by rw [← List.length_append, ← hap]
    have e1 : s.extract 0 W0.length = st W0 := by
      rw [← hs, st_extract, hap, List.take_left]
      rfl
    rw [run_slice_string_to_if W 9 s .i64 (W0.length : Int) Try.underlying9, if_pos (by omega)]
    show Result.ok (Value.string (s.extract 0 W0.length)) W = _
    rw [e1]
  have HCl := Lib.hid (fun W => clone_any (st W0) (by rw [st_size]; have h2 : l.length = W0.length + R.1.length := (by rw [← List.length_append, ← hap]); omega) W)
  obtain ⟨tw, htw⟩ : ∃ t, st W0 = t := ⟨_, rfl⟩
  obtain ⟨n0, hn0⟩ : ∃ n, W0.length = n := ⟨_, rfl⟩
  obtain ⟨n1, hn1⟩ : ∃ n, R.1.length = n := ⟨_, rfl⟩
  have HRl : Hid (R.1.length = n1) := Lib.hid hn1
  rw [htw] at hsl HCl
  rw [hn0] at hsl hw1
  rw [hn1] at hw1
  rw [htw]
  clear hR hW0 hap hf h hs hsz htw hn0 hn1 HSz hlen
  go_enter Try.func37, Try.ntmps37
  go_wp2_with fail
  clear c0
  go_loopg [] (l.length) (fun k wr => ∃ (m : List UInt8) (q : Nat × Nat), Hid (m.length = k) ∧ Hid ((wordB m q).2 = R ∧ Fit m q ∧ Sc wr g m q.1 q.2) ∧ Hid (Only (· = g) w wr))
  case atStart => exact ⟨l, p, Lib.hid rfl, H0, Lib.hid (Only.refl _ _)⟩
  case round =>
    obtain ⟨m, q, HK, HS, HO⟩ := hrel
    obtain ⟨wo, rfl⟩ : ∃ wo : World, wo = wr := ⟨_, rfl⟩
    have HE := Lib.hid (ended_any g m q.1 q.2 wo (Lib.hid HS.out.2.2))
    have HEnd : Hid ((m, q) = R → wo.cell? ⟨g, 0, none⟩ = some (.string (st R.1)) ∧ (st R.1).size = n1 ∧ Sc wo g R.1 R.2.1 R.2.2) := Lib.hid fun e => by
      rw [← e]
      exact ⟨(sc_cells HS.out.2.2).1, by rw [st_size, ← HRl.out, ← e], HS.out.2.2⟩
    cases m with
    | nil =>
      obtain ⟨c0, hsz2, hsc⟩ := HEnd.out HS.out.1
      have HSc := Lib.hid hsc
      obtain ⟨s2, hs2⟩ : ∃ s, st R.1 = s := ⟨_, rfl⟩
      rw [hs2] at c0 hsz2
      have hw2 : IntKind.i64.wrap ((s.size : Int) - (s2.size : Int)) = (n0 : Int) := by rw [hsz2]; exact hw1
      clear hs2 hsz2 hsc HEnd hw1
      go_wp2_with fail
      refine HE.out.mono ?_
      rintro e w2 ⟨rfl, rfl⟩
      go_wp2_with fail
      refine (HCl.out wo).mono ?_
      rintro e w3 ⟨rfl, hb⟩
      have HB := Lib.hid hb
      clear hb
      go_wp2_with fail
      go_ret
      exact ⟨rfl, Lib.hid (sc_later HSc.out HB.out), Lib.hid (HO.out.trans (Only.of_below HB.out))⟩
    | cons c t =>
      have hd : decide (c :: t = ([] : List UInt8)) = false := rfl
      rw [hd] at HE
      obtain ⟨c0, c1, c2⟩ := sc_cells HS.out.2.2
      have hix := idx0 c t
      have HN := Lib.hid (fun W h => next_any g c t q.1 q.2 HS.out.2.1.lt.1 HS.out.2.1.lt.2 W h)
      have HOf := Lib.hid (fun W => isOfWord_any c W)
      cases hb : ofW c with
      | true =>
        obtain ⟨s0, hs0⟩ : ∃ s, st (c :: t) = s := ⟨_, rfl⟩
        rw [hs0] at hix c0
        obtain ⟨x, hx⟩ : ∃ x, c.toNat = x := ⟨_, rfl⟩
        rw [hx] at hix HN HOf
        rw [hb] at HOf
        have HR : Hid ((wordB t (adv c q)).2 = R) := Lib.hid (by rw [← HS.out.1, wordB, if_pos hb])
        clear hs0 hx hb HEnd
        go_wp2_with fail
        refine HE.out.mono ?_
        rintro e w2 ⟨rfl, rfl⟩
        go_wp2_with fail
        refine (HOf.out wo).mono ?_
        rintro e w2 ⟨rfl, rfl⟩
        go_wp2_with fail
        refine (HN.out wo (Lib.hid HS.out.2.2)).mono ?_
        rintro e w3 ⟨rfl, hs3, ho3⟩
        have HS3 : Hid ((wordB t (adv c q)).2 = R ∧ Fit t (adv c q) ∧ Sc w3 g t (adv c q).1 (adv c q).2) := Lib.hid ⟨HR.out, HS.out.2.1.tail, hs3.out⟩
        have HO3 : Hid (Only (· = g) w w3) := Lib.hid (HO.out.trans ho3.out)
        have HK3 : Hid (t.length + 1 = gk) := Lib.hid (by have := HK.out; simpa using this)
        clear HN HE HR HS HO hs3 ho3 HK c0 c1 c2 HOf
        go_wp2_with fail
        go_roundg (t.length)
        case measure => have := HK3.out; omega
        case rel => exact ⟨t, adv c q, Lib.hid rfl, HS3, HO3⟩
      | false =>
        have hRe : (c :: t, q) = R := by rw [← HS.out.1, wordB, if_neg (by rw [hb]; decide)]
        obtain ⟨cx, hsz2, hsc⟩ := HEnd.out hRe
        clear cx
        have HSc := Lib.hid hsc
        have hs2' : st R.1 = st (c :: t) := by rw [← hRe]
        rw [hs2'] at hsz2
        obtain ⟨s2, hs2⟩ : ∃ s, st (c :: t) = s := ⟨_, rfl⟩
        rw [hs2] at c0 hsz2 hix
        obtain ⟨x, hx⟩ : ∃ x, c.toNat = x := ⟨_, rfl⟩
        rw [hx] at hix HOf
        rw [hb] at HOf
        have hw2 : IntKind.i64.wrap ((s.size : Int) - (s2.size : Int)) = (n0 : Int) := by rw [hsz2]; exact hw1
        clear hs2 hsz2 hsc HEnd hw1 hs2' hRe hb hx HN
        go_wp2_with fail
        refine HE.out.mono ?_
        rintro e w2 ⟨rfl, rfl⟩
        go_wp2_with fail
        refine (HOf.out wo).mono ?_
        rintro e w2 ⟨rfl, rfl⟩
        go_wp2_with fail
        refine (HCl.out wo).mono ?_
        rintro e w3 ⟨rfl, hb⟩
        have HB := Lib.hid hb
        clear hb
        go_wp2_with fail
        go_ret
        exact ⟨rfl, Lib.hid (sc_later HSc.out HB.out), Lib.hid (HO.out.trans (Only.of_below HB.out))⟩
end Go.Proofs.Ytfpjeokncdlofaa
