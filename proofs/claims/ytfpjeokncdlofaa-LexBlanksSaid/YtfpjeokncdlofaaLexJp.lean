/- The scanner of package lex: two texts, a new line between them. -/
import Derived.Test.YtfpjeokncdlofaaLexX
namespace Go.Proofs.Ytfpjeokncdlofaa
open Go.ChangeShapes Go.WideShapes Go.ChangeAt Go.RowKit Go.Joins
open Go.Proofs.Ytfpjeokncdlofaa.Fn (st st_size st_list st_extract)
set_option linter.unusedVariables false
set_option maxRecDepth 20000

/-- so many lines further down -/
def sh (n : Nat) (p : Nat × Nat) : Nat × Nat := (p.1 + n, p.2)
def shT (n : Nat) (k : Tok) : Tok := (sh n k.1, k.2)
theorem adv_sh (c : UInt8) (n : Nat) (p : Nat × Nat) : adv c (sh n p) = sh n (adv c p) := by
  unfold adv sh
  split
  · show (p.1 + n + 1, 1) = (p.1 + 1 + n, 1); congr 1; omega
  · rfl
theorem skipB_sh (n : Nat) : ∀ (s : Bool) (l : List UInt8) (p : Nat × Nat), skipB s l (sh n p) = ((skipB s l p).1, sh n (skipB s l p).2)
  | s, [], p => by cases s <;> rfl
  | true, c :: t, p => by
    rw [skipB, skipB, adv_sh]
    split
    · exact skipB_sh n _ _ _
    · exact skipB_sh n _ _ _
  | false, c :: t, p => by
    rw [skipB, skipB, adv_sh]
    split
    · exact skipB_sh n _ _ _
    · split
      · exact skipB_sh n _ _ _
      · rfl
theorem wordB_sh (n : Nat) : ∀ (l : List UInt8) (p : Nat × Nat), wordB l (sh n p) = ((wordB l p).1, (wordB l p).2.1, sh n (wordB l p).2.2)
  | [], p => rfl
  | c :: t, p => by
    rw [wordB, wordB, adv_sh, wordB_sh n t]
    split <;> rfl
theorem hexS_sh (n : Nat) : ∀ (u : List UInt8) (p : Nat × Nat), hexS u (sh n p) = (hexS u p).map fun r => (r.1, r.2.1, sh n r.2.2)
  | [], p => rfl
  | [_], p => rfl
  | a :: b :: v, p => by
    rw [hexS, hexS, adv_sh, adv_sh]
    split <;> rfl
theorem escS_sh (n : Nat) : ∀ (u : List UInt8) (p : Nat × Nat), escS u (sh n p) = (escS u p).map fun r => (r.1, r.2.1, sh n r.2.2)
  | [], p => rfl
  | d :: u, p => by
    rw [escS, escS, adv_sh, hexS_sh]
    split
    · rfl
    · split
      · rfl
      · split <;> rfl
def mapS (n : Nat) : Except (Nat × Nat) (List UInt8 × List UInt8 × (Nat × Nat)) → Except (Nat × Nat) (List UInt8 × List UInt8 × (Nat × Nat))
  | .ok r => .ok (r.1, r.2.1, sh n r.2.2)
  | .error q => .error (sh n q)
theorem strS_sh (n : Nat) (first : Nat × Nat) : ∀ (f : Nat) (l : List UInt8) (p : Nat × Nat) (acc : List UInt8), strS (sh n first) f l (sh n p) acc = mapS n (strS first f l p acc)
  | 0, l, p, acc => rfl
  | f + 1, [], p, acc => rfl
  | f + 1, c :: t, p, acc => by
    rw [strS, strS, adv_sh, escS_sh]
    split
    · split <;> rfl
    · split
      · cases escS t (adv c p) with
        | none => rfl
        | some r => exact strS_sh n first f _ _ _
      · split
        · rfl
        · exact strS_sh n first f _ _ _
def mapK (n : Nat) : Except (Nat × Nat) (Tok × List UInt8 × (Nat × Nat)) → Except (Nat × Nat) (Tok × List UInt8 × (Nat × Nat))
  | .ok r => .ok (shT n r.1, r.2.1, sh n r.2.2)
  | .error q => .error (sh n q)
theorem tokS_sh (n : Nat) : ∀ (l : List UInt8) (p : Nat × Nat), tokS l (sh n p) = mapK n (tokS l p)
  | [], p => rfl
  | c :: t, p => by
    rw [tokS, tokS, adv_sh, adv_sh, strS_sh, wordB_sh]
    split
    · rfl
    · split
      · rfl
      · split
        · cases strS p t.length t (adv 34 p) [] with
          | ok r => rfl
          | error r => rfl
        · cases wordS (wordB (c :: t) p).1 with
          | none => rfl
          | some v => rfl
def mapR (pre : List Tok) (n : Nat) : Option (Except (Nat × Nat) (List Tok)) → Option (Except (Nat × Nat) (List Tok))
  | some (.ok L) => some (.ok (pre ++ L.map (shT n)))
  | some (.error q) => some (.error (sh n q))
  | none => none
theorem scanS_sh (pre : List Tok) (n : Nat) : ∀ (f : Nat) (l : List UInt8) (p : Nat × Nat) (acc : List Tok), scanS f l (sh n p) (pre ++ acc.map (shT n)) = mapR pre n (scanS f l p acc)
  | 0, [], p, acc => rfl
  | f + 1, [], p, acc => rfl
  | 0, c :: t, p, acc => rfl
  | f + 1, c :: t, p, acc => by
    rw [scanS, scanS, wordB_sh, tokS_sh]
    split
    · rfl
    · cases tokS (c :: t) p with
      | error r => rfl
      | ok r =>
        obtain ⟨k, l, q⟩ := r
        show scanS f (skipB false l (sh n q)).1 (skipB false l (sh n q)).2 (pre ++ acc.map (shT n) ++ [shT n k]) = _
        rw [skipB_sh, List.append_assoc, show acc.map (shT n) ++ [shT n k] = (acc ++ [k]).map (shT n) by simp]
        exact scanS_sh pre n f _ _ _
/-- the place behind a text -/
def adL (a : List UInt8) (p : Nat × Nat) : Nat × Nat := a.foldl (fun p c => adv c p) p
theorem adL_line : ∀ (a : List UInt8) (p : Nat × Nat), (adL a p).1 = p.1 + a.countP (fun c => c == 10)
  | [], p => rfl
  | c :: t, p => by
    show (adL t (adv c p)).1 = _
    rw [adL_line t, List.countP_cons]
    unfold adv
    by_cases h : c = 10
    · rw [if_pos h, if_pos (by simpa using h)]; show p.1 + 1 + _ = _; omega
    · rw [if_neg h, if_neg (by simpa using h)]; show p.1 + _ = _; omega
theorem skipB_ad : ∀ (s : Bool) (a : List UInt8) (p : Nat × Nat), adL (skipB s a p).1 (skipB s a p).2 = adL a p
  | s, [], p => by cases s <;> rfl
  | true, c :: t, p => by
    rw [skipB]
    split
    · exact skipB_ad _ _ _
    · exact skipB_ad _ _ _
  | false, c :: t, p => by
    rw [skipB]
    split
    · exact skipB_ad _ _ _
    · split
      · exact skipB_ad _ _ _
      · rfl
theorem wordB_ad : ∀ (a : List UInt8) (p : Nat × Nat), adL (wordB a p).2.1 (wordB a p).2.2 = adL a p
  | [], p => rfl
  | c :: t, p => by
    rw [wordB]
    split
    · exact wordB_ad t (adv c p)
    · rfl
theorem hexS_ad {u : List UInt8} {p : Nat × Nat} {v : Nat} {l : List UInt8} {q : Nat × Nat} (h : hexS u p = some (v, l, q)) (D : List UInt8) : adL l q = adL u p ∧ hexS (u ++ D) p = some (v, l ++ D, q) := by
  match u, h with
  | a :: b :: t, h =>
    show _ ∧ hexS (a :: b :: (t ++ D)) p = _
    rw [hexS] at h ⊢
    split at h
    · rename_i hh
      rw [if_pos hh]
      cases h
      exact ⟨rfl, rfl⟩
    · cases h
theorem escS_ad {u : List UInt8} {p : Nat × Nat} {v : Nat} {l : List UInt8} {q : Nat × Nat} (h : escS u p = some (v, l, q)) (D : List UInt8) : adL l q = adL u p ∧ escS (u ++ D) p = some (v, l ++ D, q) := by
  match u, h with
  | d :: t, h =>
    show _ ∧ escS (d :: (t ++ D)) p = _
    rw [escS] at h ⊢
    split at h
    · rename_i hh
      rw [if_pos hh]
      cases h
      exact ⟨rfl, rfl⟩
    · rename_i hh
      rw [if_neg hh]
      split at h
      · rename_i h2
        rw [if_pos h2]
        cases h
        exact ⟨rfl, rfl⟩
      · rename_i h2
        rw [if_neg h2]
        split at h
        · rename_i h3
          rw [if_pos h3]
          exact hexS_ad h D
        · cases h
theorem strS_ad (first : Nat × Nat) (D : List UInt8) : ∀ (f : Nat) (l : List UInt8) (p : Nat × Nat) (acc b r : List UInt8) (q : Nat × Nat), strS first f l p acc = .ok (b, r, q) → adL r q = adL l p ∧ ∀ g, f ≤ g → strS first g (l ++ D) p acc = .ok (b, r ++ D, q)
  | 0, l, p, acc, b, r, q, h => by rw [strS] at h; cases h
  | f + 1, [], p, acc, b, r, q, h => by rw [strS] at h; cases h
  | f + 1, c :: t, p, acc, b, r, q, h => by
    rw [strS] at h
    have key : ∀ g, f + 1 ≤ g → ∃ g', g = g' + 1 ∧ f ≤ g' := fun g hg => ⟨g - 1, by omega, by omega⟩
    split at h
    · rename_i h34
      split at h
      · cases h
      · rename_i hn
        cases h
        refine ⟨rfl, fun g hg => ?_⟩
        obtain ⟨g', rfl, _⟩ := key g hg
        show strS first (g' + 1) (c :: (t ++ D)) p acc = _
        rw [strS, if_pos h34, if_neg hn]
    · rename_i h34
      split at h
      · rename_i h92
        split at h
        · rename_i v l2 q2 he
          obtain ⟨h1, h2⟩ := escS_ad he D
          obtain ⟨k1, k2⟩ := strS_ad first D f _ _ _ _ _ _ h
          refine ⟨k1.trans h1, fun g hg => ?_⟩
          obtain ⟨g', rfl, hg'⟩ := key g hg
          show strS first (g' + 1) (c :: (t ++ D)) p acc = _
          rw [strS, if_neg h34, if_pos ⟨h92.1, by cases t with | nil => exact absurd rfl h92.2 | cons x y => simp⟩, h2]
          exact k2 g' hg'
        · cases h
      · rename_i h92
        split at h
        · cases h
        · rename_i h32
          obtain ⟨k1, k2⟩ := strS_ad first D f _ _ _ _ _ _ h
          refine ⟨k1, fun g hg => ?_⟩
          obtain ⟨g', rfl, hg'⟩ := key g hg
          show strS first (g' + 1) (c :: (t ++ D)) p acc = _
          have hc : ¬ (c = 92 ∧ t ++ D ≠ []) := by
            rintro ⟨e, _⟩
            have ht : t = [] := by
              cases t with
              | nil => rfl
              | cons x y => exact absurd ⟨e, List.cons_ne_nil _ _⟩ h92
            subst ht
            cases f with
            | zero => rw [strS] at h; cases h
            | succ f => rw [strS] at h; cases h
          rw [strS, if_neg h34, if_neg hc, if_neg h32]
          exact k2 g' hg'
theorem wordB_ap (D : List UInt8) (hD : ∀ c t, D = c :: t → ofW c = false) : ∀ (a : List UInt8) (p : Nat × Nat), wordB (a ++ D) p = ((wordB a p).1, (wordB a p).2.1 ++ D, (wordB a p).2.2)
  | [], p => by
    cases D with
    | nil => rfl
    | cons d u =>
      show wordB (d :: u) p = ([], d :: u, p)
      rw [wordB, if_neg (by rw [hD d u rfl]; decide)]
  | c :: t, p => by
    show wordB (c :: (t ++ D)) p = _
    rw [wordB, wordB, wordB_ap D hD t]
    split <;> rfl
theorem tokS_ad (D : List UInt8) (hD : ∀ c t, D = c :: t → ofW c = false) {c : UInt8} {t : List UInt8} {p : Nat × Nat} {k : Tok} {l : List UInt8} {q : Nat × Nat} (h : tokS (c :: t) p = .ok (k, l, q)) : adL l q = adL (c :: t) p ∧ tokS (c :: (t ++ D)) p = .ok (k, l ++ D, q) := by
  rw [tokS] at h ⊢
  split at h
  · rename_i h40
    rw [if_pos h40]
    cases h
    exact ⟨rfl, rfl⟩
  · rename_i h40
    rw [if_neg h40]
    split at h
    · rename_i h41
      rw [if_pos h41]
      cases h
      exact ⟨rfl, rfl⟩
    · rename_i h41
      rw [if_neg h41]
      split at h
      · rename_i h34
        rw [if_pos h34]
        split at h
        · rename_i b2 l2 q2 hs
          cases h
          obtain ⟨k1, k2⟩ := strS_ad p D _ _ _ _ _ _ _ hs
          rw [k2 _ (by simp)]
          refine ⟨?_, rfl⟩
          rw [k1, h34]
          rfl
        · cases h
      · rename_i h34
        rw [if_neg h34]
        have hw := wordB_ap D hD (c :: t) p
        rw [show c :: t ++ D = c :: (t ++ D) from rfl] at hw
        rw [hw]
        have ha := wordB_ad (c :: t) p
        cases hs : wordS (wordB (c :: t) p).1 with
        | none => rw [hs] at h; cases h
        | some v =>
          rw [hs] at h
          injection h with h
          have e2 : (wordB (c :: t) p).2 = (l, q) := congrArg Prod.snd h
          have e1 : (p, v.1, v.2.1, v.2.2) = k := congrArg Prod.fst h
          rw [e2] at ha
          refine ⟨ha, ?_⟩
          show Except.ok ((p, v.1, v.2.1, v.2.2), (wordB (c :: t) p).2.1 ++ D, (wordB (c :: t) p).2.2) = _
          rw [e1, e2]
/-- as many rounds as there are bytes are enough -/
theorem scanS_fuel : ∀ (n : Nat) (l : List UInt8) (p : Nat × Nat) (acc : List Tok) (f g : Nat), l.length ≤ n → l.length ≤ f → l.length ≤ g → Fit l p → (∀ c t, l = c :: t → blankB c = false ∧ c ≠ 59) → scanS f l p acc = scanS g l p acc
  | n, [], p, acc, f, g, _, _, _, _, _ => by rw [scanS_nil, scanS_nil]
  | 0, c :: t, p, acc, f, g, hn, _, _, _, _ => by simp at hn
  | n + 1, c :: t, p, acc, f, g, hn, hf, hg, hF, hh => by
    rw [List.length_cons] at hn hf hg
    obtain ⟨f', rfl⟩ : ∃ f', f = f' + 1 := ⟨f - 1, by omega⟩
    obtain ⟨g', rfl⟩ : ∃ g', g = g' + 1 := ⟨g - 1, by omega⟩
    obtain ⟨h0, h59⟩ := hh c t rfl
    rw [scanS, scanS]
    split
    · rfl
    · cases ht : tokS (c :: t) p with
      | error r => rfl
      | ok r =>
        obtain ⟨k, l, q⟩ := r
        obtain ⟨k1, k2⟩ := tokS_fit hF h0 h59 ht
        obtain ⟨s1, s2⟩ := skipB_fit false l q k1
        exact scanS_fuel n _ _ _ f' g' (by omega) (by omega) (by omega) s1 (fun c t h => skipB_head _ _ _ _ _ h)
/-- a short text is told -/
theorem scanS_some : ∀ (n : Nat) (l : List UInt8) (p : Nat × Nat) (acc : List Tok), l.length ≤ n → l.length ≤ 6000 → Fit l p → (∀ c t, l = c :: t → blankB c = false ∧ c ≠ 59) → ∃ R, scanS n l p acc = some R
  | n, [], p, acc, _, _, _, _ => ⟨_, scanS_nil _ _ _⟩
  | 0, c :: t, p, acc, hn, _, _, _ => by simp at hn
  | n + 1, c :: t, p, acc, hn, h6, hF, hh => by
    rw [List.length_cons] at hn
    obtain ⟨h0, h59⟩ := hh c t rfl
    have hw : (wordB (c :: t) p).1.length ≤ 6000 := by
      have h := congrArg List.length (wordB_append (c :: t) p)
      rw [List.length_append] at h
      omega
    rw [scanS, if_neg (by omega)]
    cases ht : tokS (c :: t) p with
    | error r => exact ⟨_, rfl⟩
    | ok r =>
      obtain ⟨k, l, q⟩ := r
      obtain ⟨k1, k2⟩ := tokS_fit hF h0 h59 ht
      obtain ⟨s1, s2⟩ := skipB_fit false l q k1
      rw [List.length_cons] at h6
      exact scanS_some n _ _ _ (by omega) (by omega) s1 (fun c t h => skipB_head _ _ _ _ _ h)
theorem scanL_some (l : List UInt8) (h : l.length ≤ 6000) : ∃ R, scanL l = some R := by
  have hF : Fit l (1, 1) := ⟨by show 1 + l.length ≤ _; omega, by show 1 + l.length ≤ _; omega, by omega⟩
  obtain ⟨s1, s2⟩ := skipB_fit false l (1, 1) hF
  exact scanS_some _ _ _ _ s2 (by omega) s1 (fun c t h => skipB_head _ _ _ _ _ h)
theorem skipB_fitD (D : List UInt8) : ∀ (s : Bool) (l : List UInt8) (p : Nat × Nat), Fit (l ++ D) p → Fit ((skipB s l p).1 ++ D) (skipB s l p).2
  | s, [], p, h => by cases s <;> exact h
  | true, c :: t, p, h => by
    have h2 : Fit (t ++ D) (adv c p) := Fit.tail h
    rw [skipB]
    split
    · exact skipB_fitD D _ _ _ h2
    · exact skipB_fitD D _ _ _ h2
  | false, c :: t, p, h => by
    have h2 : Fit (t ++ D) (adv c p) := Fit.tail h
    rw [skipB]
    split
    · exact skipB_fitD D _ _ _ h2
    · split
      · exact skipB_fitD D _ _ _ h2
      · exact h
/-- blanks ahead of the new line -/
theorem skipB_join (b : List UInt8) : ∀ (s : Bool) (a : List UInt8) (p : Nat × Nat), skipB s (a ++ 10 :: b) p = if (skipB s a p).1 = [] then skipB false b (adv 10 (skipB s a p).2) else ((skipB s a p).1 ++ 10 :: b, (skipB s a p).2)
  | s, [], p => by
    show skipB s (10 :: b) p = _
    cases s with
    | true =>
      have e : skipB true (10 :: b) p = skipB false b (adv 10 p) := by rw [skipB, if_pos rfl]
      exact e
    | false =>
      have e : skipB false (10 :: b) p = skipB false b (adv 10 p) := by rw [skipB, if_pos (by decide)]
      exact e
  | true, c :: t, p => by
    show skipB true (c :: (t ++ 10 :: b)) p = _
    rw [skipB, skipB]
    split
    · exact skipB_join b _ _ _
    · exact skipB_join b _ _ _
  | false, c :: t, p => by
    show skipB false (c :: (t ++ 10 :: b)) p = _
    rw [skipB, skipB]
    split
    · exact skipB_join b _ _ _
    · split
      · exact skipB_join b _ _ _
      · rfl
/-- the tokens of the first text, then those behind the new line -/
theorem scanS_join (b : List UInt8) : ∀ (n : Nat) (m : List UInt8) (p : Nat × Nat) (acc L : List Tok) (f : Nat), m.length ≤ n → Fit (m ++ 10 :: b) p → (∀ c t, m = c :: t → blankB c = false ∧ c ≠ 59) → scanS n m p acc = some (.ok L) → m.length + b.length ≤ f →
    (if m = [] then scanS f (skipB false b (adv 10 p)).1 (skipB false b (adv 10 p)).2 acc else scanS f (m ++ 10 :: b) p acc) = scanS b.length (skipB false b (adv 10 (adL m p))).1 (skipB false b (adv 10 (adL m p))).2 L
  | n, [], p, acc, L, f, hn, hF, hh, hs, hf => by
    rw [scanS_nil] at hs
    cases hs
    rw [if_pos rfl]
    have hF2 : Fit b (adv 10 p) := hF.tail
    obtain ⟨s1, s2⟩ := skipB_fit false b (adv 10 p) hF2
    exact scanS_fuel b.length _ _ _ _ _ s2 (by simp at hf; omega) s2 s1 (fun c t h => skipB_head _ _ _ _ _ h)
  | 0, c :: t, p, acc, L, f, hn, hF, hh, hs, hf => by simp at hn
  | n + 1, c :: t, p, acc, L, f, hn, hF, hh, hs, hf => by
    rw [if_neg (List.cons_ne_nil _ _)]
    rw [List.length_cons] at hn hf
    obtain ⟨h0, h59⟩ := hh c t rfl
    obtain ⟨f', rfl⟩ : ∃ f', f = f' + 1 := ⟨f - 1, by omega⟩
    have hD : ∀ (d : UInt8) (u : List UInt8), 10 :: b = d :: u → ofW d = false := fun d u h => by cases h; decide
    rw [scanS] at hs
    split at hs
    · cases hs
    · rename_i hw
      cases ht : tokS (c :: t) p with
      | error r => rw [ht] at hs; cases hs
      | ok r =>
        obtain ⟨k, l, q⟩ := r
        rw [ht] at hs
        have hFm : Fit (c :: t) p := by
          obtain ⟨a1, a2, a3⟩ := hF
          rw [List.length_append] at a1 a2 a3
          exact ⟨by omega, by omega, by omega⟩
        obtain ⟨k1, k2⟩ := tokS_fit hFm h0 h59 ht
        obtain ⟨e1, e2⟩ := tokS_ad (10 :: b) hD ht
        have hFj : Fit (c :: (t ++ 10 :: b)) p := hF
        obtain ⟨j1, j2⟩ := tokS_fit hFj h0 h59 e2
        obtain ⟨s1, s2⟩ := skipB_fit false l q k1
        have hwj : (wordB (c :: (t ++ 10 :: b)) p).1.length ≤ 6000 := by
          have h := wordB_ap (10 :: b) hD (c :: t) p
          rw [show c :: (t ++ 10 :: b) = c :: t ++ 10 :: b from rfl, h]
          show (wordB (c :: t) p).1.length ≤ 6000
          omega
        show scanS (f' + 1) (c :: (t ++ 10 :: b)) p acc = _
        rw [scanS_next hwj e2, skipB_join]
        have ih := scanS_join b n (skipB false l q).1 (skipB false l q).2 (acc ++ [k]) L f' (by omega) (skipB_fitD (10 :: b) false l q (show Fit (l ++ 10 :: b) q from j1)) (fun c t h => skipB_head _ _ _ _ _ h) hs (by omega)
        rw [skipB_ad, e1] at ih
        by_cases he : (skipB false l q).1 = []
        · rw [if_pos he] at ih ⊢
          exact ih
        · rw [if_neg he] at ih ⊢
          exact ih
/-- two texts, a new line between them -/
theorem scan_join (a b : List UInt8) (ha : a.length ≤ 2000) (hb : b.length ≤ 2000) (La : List Tok) (hA : scanL a = some (.ok La)) :
    scanL (a ++ 10 :: b) = mapR La (1 + a.countP (fun c => c == 10)) (scanL b) := by
  have hF : Fit (a ++ 10 :: b) (1, 1) := by
    have e : (a ++ 10 :: b).length = a.length + (b.length + 1) := by rw [List.length_append, List.length_cons]
    exact ⟨by show 1 + _ ≤ _; omega, by show 1 + _ ≤ _; omega, by omega⟩
  have hFa : Fit a (1, 1) := ⟨by show 1 + a.length ≤ _; omega, by show 1 + a.length ≤ _; omega, by omega⟩
  obtain ⟨s1, s2⟩ := skipB_fit false a (1, 1) hFa
  have hj := scanS_join b a.length (skipB false a (1, 1)).1 (skipB false a (1, 1)).2 [] La (a ++ 10 :: b).length s2 (skipB_fitD (10 :: b) false a (1, 1) hF) (fun c t h => skipB_head _ _ _ _ _ h) hA (by rw [List.length_append, List.length_cons]; omega)
  have hl : scanL (a ++ 10 :: b) = (if (skipB false a (1, 1)).1 = [] then scanS (a ++ 10 :: b).length (skipB false b (adv 10 (skipB false a (1, 1)).2)).1 (skipB false b (adv 10 (skipB false a (1, 1)).2)).2 [] else scanS (a ++ 10 :: b).length ((skipB false a (1, 1)).1 ++ 10 :: b) (skipB false a (1, 1)).2 []) := by
    unfold scanL
    rw [skipB_join]
    split <;> rfl
  rw [hl, hj, skipB_ad]
  have e : adv 10 (adL a (1, 1)) = sh (1 + a.countP (fun c => c == 10)) (1, 1) := by
    have h := adL_line a (1, 1)
    unfold adv sh
    rw [if_pos rfl, h]
    show (1 + _ + 1, 1) = (1 + (1 + _), 1)
    congr 1
    omega
  rw [e, skipB_sh]
  have h := scanS_sh La (1 + a.countP (fun c => c == 10)) b.length (skipB false b (1, 1)).1 (skipB false b (1, 1)).2 []
  rw [List.map_nil, List.append_nil] at h
  exact h
end Go.Proofs.Ytfpjeokncdlofaa
