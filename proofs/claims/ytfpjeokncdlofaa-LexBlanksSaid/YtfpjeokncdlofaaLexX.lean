/- The scanner of package lex: what is told of texts of certain forms. -/
import Derived.Test.YtfpjeokncdlofaaLexW
namespace Go.Proofs.Ytfpjeokncdlofaa
open Go.ChangeShapes Go.WideShapes Go.ChangeAt Go.RowKit Go.Joins
open Go.Proofs.Ytfpjeokncdlofaa.Fn (st st_size st_list st_extract)
open Go.Proofs.Ytfpjeokncdlofaa.Fd (dgB val digs outD out out_neg out_pos dg_of val_snoc ofNat_dig)
set_option linter.unusedVariables false
set_option maxRecDepth 20000

theorem ofW_not {c : UInt8} (h : ofW c = true) : blankB c = false ∧ c ≠ 40 ∧ c ≠ 41 ∧ c ≠ 34 ∧ c ≠ 59 ∧ c ≠ 10 := by
  unfold ofW at h
  simp only [Bool.and_eq_true, Bool.not_eq_true', beq_eq_false_iff_ne] at h
  obtain ⟨⟨⟨⟨h0, h1⟩, h2⟩, h3⟩, h4⟩ := h
  refine ⟨h0, h1, h2, h3, h4, fun e => ?_⟩
  subst e
  exact absurd h0 (by decide)
theorem adv_word {c : UInt8} (h : ofW c = true) (p : Nat × Nat) : adv c p = (p.1, p.2 + 1) := if_neg (ofW_not h).2.2.2.2.2
/-- a word ahead of what is none -/
theorem wordB_all : ∀ (a : List UInt8) (b : List UInt8) (p : Nat × Nat), (∀ c ∈ a, ofW c = true) → (∀ c t, b = c :: t → ofW c = false) → wordB (a ++ b) p = (a, b, (p.1, p.2 + a.length))
  | [], b, p, _, hb => by
    cases b with
    | nil => rfl
    | cons c t =>
      show wordB (c :: t) p = _
      rw [wordB, if_neg (by rw [hb c t rfl]; decide)]
      rfl
  | c :: a, b, p, ha, hb => by
    have hc := ha c (List.mem_cons_self ..)
    show wordB (c :: (a ++ b)) p = _
    rw [wordB, if_pos hc, adv_word hc, wordB_all a b _ (fun d hd => ha d (List.mem_cons_of_mem _ hd)) hb]
    show (c :: a, b, (p.1, p.2 + 1 + a.length)) = _
    rw [List.length_cons, Nat.add_assoc, Nat.add_comm 1]
theorem skipB_stay {c : UInt8} {t : List UInt8} {p : Nat × Nat} (h0 : blankB c = false) (h1 : c ≠ 59) : skipB false (c :: t) p = (c :: t, p) := by
  rw [skipB, if_neg (by rw [h0]; decide), if_neg h1]
theorem skipB_spaces : ∀ (m : Nat) (r : List UInt8) (p : Nat × Nat), skipB false (List.replicate m 32 ++ r) p = skipB false r (p.1, p.2 + m)
  | 0, r, p => rfl
  | m + 1, r, p => by
    show skipB false (32 :: (List.replicate m 32 ++ r)) p = _
    rw [skipB, if_pos (by decide), skipB_spaces m r]
    show skipB false r (p.1, p.2 + 1 + m) = _
    rw [Nat.add_assoc, Nat.add_comm 1]
theorem skipB_lines : ∀ (m : Nat) (r : List UInt8) (p : Nat), skipB false (List.replicate m 10 ++ r) (p, 1) = skipB false r (p + m, 1)
  | 0, r, p => rfl
  | m + 1, r, p => by
    show skipB false (10 :: (List.replicate m 10 ++ r)) (p, 1) = _
    rw [skipB, if_pos (by decide)]
    show skipB false (List.replicate m 10 ++ r) (p + 1, 1) = _
    rw [skipB_lines m r, Nat.add_assoc, Nat.add_comm 1]
/-- the digits of an integer are bytes of a word -/
theorem itoa_word (i : Int) : ∀ c ∈ Lib.itoa i, ofW c = true := by
  have key : ∀ c : UInt8, dgB c = true → ofW c = true := fun c h => by
    have h2 := (dg_of c).1 h
    have e : ∀ d : UInt8, (d.toNat < 48 ∨ 57 < d.toNat) → (c == d) = false := fun d hd => beq_eq_false_iff_ne.2 fun e => by rw [e] at h2; omega
    unfold ofW blankB
    rw [e 32 (by decide), e 9 (by decide), e 10 (by decide), e 40 (by decide), e 41 (by decide), e 34 (by decide), e 59 (by decide)]
    rfl
  unfold Lib.itoa
  intro c hc
  split at hc
  · rcases List.mem_cons.1 hc with rfl | hc
    · decide
    · exact key c ((dec_dig _).1 c hc)
  · exact key c ((dec_dig _).1 c hc)
theorem itoa_cons (i : Int) : ∃ c t, Lib.itoa i = c :: t := by
  unfold Lib.itoa
  split
  · exact ⟨_, _, rfl⟩
  · obtain ⟨_, _, h⟩ := dec_dig i.toNat
    cases hh : Lib.decDigits i.toNat with
    | nil => rw [hh] at h; simp at h
    | cons c t => exact ⟨c, t, rfl⟩
/-- one more token of the text -/
theorem scanS_next {n : Nat} {c : UInt8} {t : List UInt8} {p : Nat × Nat} {acc : List Tok} {k : Tok} {l : List UInt8} {q : Nat × Nat} (hw : (wordB (c :: t) p).1.length ≤ 6000) (ht : tokS (c :: t) p = .ok (k, l, q)) :
    scanS (n + 1) (c :: t) p acc = scanS n (skipB false l q).1 (skipB false l q).2 (acc ++ [k]) := by
  rw [scanS, if_neg (by omega), ht]
theorem scanS_stop {n : Nat} {c : UInt8} {t : List UInt8} {p : Nat × Nat} {acc : List Tok} {r : Nat × Nat} (hw : (wordB (c :: t) p).1.length ≤ 6000) (ht : tokS (c :: t) p = .error r) :
    scanS (n + 1) (c :: t) p acc = some (.error r) := by
  rw [scanS, if_neg (by omega), ht]
/-- a word's token -/
theorem tokS_word {a b : List UInt8} {p : Nat × Nat} {k n : Int} {x : List UInt8} (hne : a ≠ []) (ha : ∀ c ∈ a, ofW c = true) (hb : ∀ c t, b = c :: t → ofW c = false) (hs : wordS a = some (k, n, x)) :
    tokS (a ++ b) p = .ok ((p, k, n, x), b, (p.1, p.2 + a.length)) := by
  have hw := wordB_all a b p ha hb
  cases a with
  | nil => exact absurd rfl hne
  | cons c t =>
    obtain ⟨_, h40, h41, h34, _⟩ := ofW_not (ha c (List.mem_cons_self ..))
    have hw' : wordB (c :: (t ++ b)) p = (c :: t, b, (p.1, p.2 + (c :: t).length)) := hw
    show tokS (c :: (t ++ b)) p = _
    rw [tokS, if_neg h40, if_neg h41, if_neg h34, hw', hs]
theorem tokS_wordno {a b : List UInt8} {p : Nat × Nat} (hne : a ≠ []) (ha : ∀ c ∈ a, ofW c = true) (hb : ∀ c t, b = c :: t → ofW c = false) (hs : wordS a = none) :
    tokS (a ++ b) p = .error p := by
  have hw := wordB_all a b p ha hb
  cases a with
  | nil => exact absurd rfl hne
  | cons c t =>
    obtain ⟨_, h40, h41, h34, _⟩ := ofW_not (ha c (List.mem_cons_self ..))
    have hw' : wordB (c :: (t ++ b)) p = (c :: t, b, (p.1, p.2 + (c :: t).length)) := hw
    show tokS (c :: (t ++ b)) p = _
    rw [tokS, if_neg h40, if_neg h41, if_neg h34, hw', hs]
theorem scanS_word {n : Nat} {a b : List UInt8} {p : Nat × Nat} {acc : List Tok} {k m : Int} {x : List UInt8} (hne : a ≠ []) (ha : ∀ c ∈ a, ofW c = true) (hb : ∀ c t, b = c :: t → ofW c = false) (hs : wordS a = some (k, m, x)) (hl : a.length ≤ 6000) :
    scanS (n + 1) (a ++ b) p acc = scanS n (skipB false b (p.1, p.2 + a.length)).1 (skipB false b (p.1, p.2 + a.length)).2 (acc ++ [(p, k, m, x)]) := by
  have ht := tokS_word (p := p) hne ha hb hs
  have hw := wordB_all a b p ha hb
  cases a with
  | nil => exact absurd rfl hne
  | cons c t =>
    have hw' : (wordB (c :: (t ++ b)) p).1.length ≤ 6000 := by
      rw [show c :: (t ++ b) = c :: t ++ b from rfl, hw]
      exact hl
    exact scanS_next hw' (show tokS (c :: (t ++ b)) p = _ from ht)
theorem scanS_wordno {n : Nat} {a b : List UInt8} {p : Nat × Nat} {acc : List Tok} (hne : a ≠ []) (ha : ∀ c ∈ a, ofW c = true) (hb : ∀ c t, b = c :: t → ofW c = false) (hs : wordS a = none) (hl : a.length ≤ 6000) :
    scanS (n + 1) (a ++ b) p acc = some (.error p) := by
  have ht := tokS_wordno (p := p) hne ha hb hs
  have hw := wordB_all a b p ha hb
  cases a with
  | nil => exact absurd rfl hne
  | cons c t =>
    have hw' : (wordB (c :: (t ++ b)) p).1.length ≤ 6000 := by
      rw [show c :: (t ++ b) = c :: t ++ b from rfl, hw]
      exact hl
    exact scanS_stop hw' (show tokS (c :: (t ++ b)) p = _ from ht)
theorem scanS_nil (n : Nat) (p : Nat × Nat) (acc : List Tok) : scanS n [] p acc = some (.ok acc) := by cases n <;> rfl
theorem scanS_close {n : Nat} {t : List UInt8} {p : Nat × Nat} {acc : List Tok} : scanS (n + 1) (41 :: t) p acc = scanS n (skipB false t (p.1, p.2 + 1)).1 (skipB false t (p.1, p.2 + 1)).2 (acc ++ [(p, 1, 0, [])]) :=
  scanS_next (by rw [wordB, if_neg (by decide)]; exact Nat.zero_le _) (by rw [tokS, if_neg (by decide), if_pos rfl]; rfl)
theorem scanS_open {n : Nat} {t : List UInt8} {p : Nat × Nat} {acc : List Tok} : scanS (n + 1) (40 :: t) p acc = scanS n (skipB false t (p.1, p.2 + 1)).1 (skipB false t (p.1, p.2 + 1)).2 (acc ++ [(p, 0, 0, [])]) :=
  scanS_next (by rw [wordB, if_neg (by decide)]; exact Nat.zero_le _) (by rw [tokS, if_pos rfl]; rfl)
/-- blanks, an integer, a bracket -/
theorem scan_number (m : Nat) (i : Int) (h1 : -4611686018427387904 ≤ i) (h2 : i ≤ 4611686018427387903) :
    scanL (List.replicate m 32 ++ Lib.itoa i ++ [41]) = some (.ok [((1, m + 1), 2, i, []), ((1, m + 1 + (Lib.itoa i).length), 1, 0, [])]) := by
  obtain ⟨c, t, hct⟩ := itoa_cons i
  have hw := itoa_word i
  obtain ⟨h0, _, _, _, h59, _⟩ := ofW_not (hw c (by rw [hct]; exact List.mem_cons_self ..))
  have hs : wordS (Lib.itoa i) = some (2, i, []) := by
    unfold wordS
    rw [out_itoa i h1 h2]
    rfl
  have hb : ∀ (d : UInt8) (u : List UInt8), [41] = d :: u → ofW d = false := fun d u h => by cases h; decide
  have hlen := itoa_len i h1 h2
  unfold scanL
  rw [List.append_assoc, skipB_spaces]
  show scanS _ (skipB false (Lib.itoa i ++ [41]) (1, 1 + m)).1 (skipB false (Lib.itoa i ++ [41]) (1, 1 + m)).2 [] = _
  rw [Nat.add_comm 1 m]
  have e1 : skipB false (Lib.itoa i ++ [41]) (1, m + 1) = (Lib.itoa i ++ [41], (1, m + 1)) := by
    rw [hct]
    exact skipB_stay h0 h59
  rw [e1]
  obtain ⟨k, hk⟩ : ∃ k, (List.replicate m (32 : UInt8) ++ (Lib.itoa i ++ [41])).length = k + 1 + 1 := ⟨m + t.length, by rw [hct]; simp; omega⟩
  rw [hk]
  have e2 : skipB false [41] (1, m + 1 + (Lib.itoa i).length) = ([41], (1, m + 1 + (Lib.itoa i).length)) := skipB_stay (by decide) (by decide)
  refine (scanS_word (a := Lib.itoa i) (b := [41]) (p := (1, m + 1)) (by rw [hct]; exact List.cons_ne_nil _ _) hw hb hs (by omega)).trans ?_
  show scanS (k + 1) (skipB false [41] (1, m + 1 + (Lib.itoa i).length)).1 (skipB false [41] (1, m + 1 + (Lib.itoa i).length)).2 _ = _
  rw [e2]
  refine scanS_close.trans ?_
  exact scanS_nil _ _ _
end Go.Proofs.Ytfpjeokncdlofaa
