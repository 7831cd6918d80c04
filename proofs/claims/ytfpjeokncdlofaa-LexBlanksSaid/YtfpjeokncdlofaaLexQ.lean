/- The scanner of package lex: a token. -/
import Derived.Test.YtfpjeokncdlofaaLexP
namespace Go.Proofs.Ytfpjeokncdlofaa
open Go.ChangeShapes Go.WideShapes Go.ChangeAt Go.RowKit Go.Joins
open Go.Proofs.Ytfpjeokncdlofaa.Fn (st st_size st_list st_extract)
set_option linter.unusedVariables false
set_option maxRecDepth 20000

theorem wordB_any (l : List UInt8) (p : Nat × Nat) (hf : Fit l p) : Fit (wordB l p).2.1 (wordB l p).2.2 ∧ (wordB l p).2.1.length ≤ l.length := wordB_fit l p hf
/-- a token: what is told, or what is thrown -/
theorem token_any (g : Nat) (c : UInt8) (t : List UInt8) (p : Nat × Nat) (hf : Fit (c :: t) p) (hb : blankB c = false) (h59 : c ≠ 59) (hw : (wordB (c :: t) p).1.length ≤ 6000) (w : World) (h : Hid (Sc w g (c :: t) p.1 p.2)) :
    Calls Try.prog 30 #[.pointer (some ⟨g, 0, none⟩)] w fun e w' => ((∃ k l q, tokS (c :: t) p = .ok (k, l, q) ∧ e = .returned k.v ∧ Hid (Sc w' g l q.1 q.2)) ∨ (∃ r, tokS (c :: t) p = .error r ∧ e = thrown r.1 r.2 10)) ∧ Hid (Only (· = g) w w') := by
  by_cases h40 : c = 40
  · subst h40
    refine (token_open g t p hf w h).mono ?_
    rintro e w' ⟨rfl, h1, h2⟩
    exact ⟨.inl ⟨_, _, _, by rw [tokS, if_pos rfl], rfl, h1⟩, h2⟩
  · by_cases h41 : c = 41
    · subst h41
      refine (token_close g t p hf w h).mono ?_
      rintro e w' ⟨rfl, h1, h2⟩
      exact ⟨.inl ⟨_, _, _, by rw [tokS, if_neg (by decide), if_pos rfl], rfl, h1⟩, h2⟩
    · by_cases h34 : c = 34
      · subst h34
        cases hs : strS p t.length t (adv 34 p) [] with
        | ok v =>
          obtain ⟨b, l, q⟩ := v
          refine (token_text g t p hf b l q hs w h).mono ?_
          rintro e w' ⟨rfl, h1, h2⟩
          exact ⟨.inl ⟨_, _, _, by rw [tokS, if_neg (by decide), if_neg (by decide), if_pos rfl, hs], rfl, h1⟩, h2⟩
        | error r =>
          refine (token_text_no g t p hf r hs w h).mono ?_
          rintro e w' ⟨rfl, h2⟩
          exact ⟨.inr ⟨r, by rw [tokS, if_neg (by decide), if_neg (by decide), if_pos rfl, hs], rfl⟩, h2⟩
      · have ho := ofW_of hb h40 h41 h34 h59
        cases hs : wordS (wordB (c :: t) p).1 with
        | some v =>
          obtain ⟨k, n, b⟩ := v
          refine (token_word g c t p hf ho h40 h41 h34 hw k n b hs w h).mono ?_
          rintro e w' ⟨rfl, h1, h2⟩
          exact ⟨.inl ⟨_, _, _, by rw [tokS, if_neg h40, if_neg h41, if_neg h34, hs], rfl, h1⟩, h2⟩
        | none =>
          refine (token_word_no g c t p hf ho h40 h41 h34 hw hs w h).mono ?_
          rintro e w' ⟨rfl, h2⟩
          exact ⟨.inr ⟨p, by rw [tokS, if_neg h40, if_neg h41, if_neg h34, hs], rfl⟩, h2⟩
theorem tokS_fit {c : UInt8} {t : List UInt8} {p : Nat × Nat} {k : Tok} {l : List UInt8} {q : Nat × Nat} (hf : Fit (c :: t) p) (hb : blankB c = false) (h59 : c ≠ 59) (h : tokS (c :: t) p = .ok (k, l, q)) : Fit l q ∧ l.length ≤ t.length := by
  rw [tokS] at h
  split at h
  · cases h; exact ⟨hf.tail, Nat.le_refl _⟩
  · rename_i h40
    split at h
    · cases h; exact ⟨hf.tail, Nat.le_refl _⟩
    · rename_i h41
      split at h
      · rename_i h34
        split at h
        · rename_i b l2 q2 hs
          cases h
          obtain ⟨h1, h2, _⟩ := strS_fit p _ _ _ _ _ _ _ hs (h34 ▸ hf.tail)
          exact ⟨h1, by omega⟩
        · cases h
      · rename_i h34
        split at h
        · have ho := ofW_of hb h40 h41 h34 h59
          have e : (wordB (c :: t) p).2 = (l, q) := by injection h with h; exact congrArg Prod.snd h
          have hfit := wordB_fit t (adv c p) hf.tail
          rw [wordB, if_pos ho] at e
          have e' : (wordB t (adv c p)).2 = (l, q) := e
          rw [e'] at hfit
          exact hfit
        · cases h
end Go.Proofs.Ytfpjeokncdlofaa
