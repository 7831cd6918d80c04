/- The scanner of package lex: tokens that are written anew, with other blanks between. -/
import Derived.Test.YtfpjeokncdlofaaLexJa
namespace Go.Proofs.Ytfpjeokncdlofaa
open Go.ChangeShapes Go.WideShapes Go.ChangeAt Go.RowKit Go.Joins
open Go.Proofs.Ytfpjeokncdlofaa.Fn (st st_size st_list st_extract)
open Go.Proofs.Ytfpjeokncdlofaa.Fd (dgB val digs outD out out_neg out_pos)
set_option linter.unusedVariables false
set_option maxRecDepth 20000

abbrev TokD := Int × Int × List UInt8
/-- what the scanner tells of a token, but for its place -/
def okD (d : TokD) : Prop :=
  d = (0, 0, []) ∨ d = (1, 0, []) ∨ (∃ n, -4611686018427387904 ≤ n ∧ n ≤ 4611686018427387903 ∧ d = (2, n, [])) ∨ (∃ x, d = (3, 0, x)) ∨ (∃ x, x.length ≤ 4096 ∧ d = (4, 0, x)) ∨
  (∃ k x, (k = 5 ∨ k = 6) ∧ d = (k, 0, x) ∧ wordS x = some (k, 0, x) ∧ x ≠ [] ∧ (∀ c ∈ x, ofW c = true) ∧ x.length ≤ 6000)
/-- as it is written -/
def spS (d : TokD) : List UInt8 :=
  if d.1 = 0 then [40] else if d.1 = 1 then [41] else if d.1 = 2 then Lib.itoa d.2.1 else if d.1 = 3 then [48, 46, 53] else if d.1 = 4 then 34 :: (spL d.2.2 ++ [34]) else d.2.2
def half : List UInt8 := eightB (fltL [48, 46, 53]).1
/-- what is told of it then -/
def wtD (d : TokD) : TokD := if d.1 = 3 then (3, 0, half) else d
theorem half_word : wordS [48, 46, 53] = some (3, 0, half) := by
  unfold wordS half
  rw [if_neg (by decide), if_pos (by kernel_rfl)]
theorem out_lim (L : List UInt8) (h : (out L).2 = 0) : -4611686018427387904 ≤ (out L).1 ∧ (out L).1 ≤ 4611686018427387903 := by
  have key : ∀ neg ds, (outD neg ds).2 = 0 → -4611686018427387904 ≤ (outD neg ds).1 ∧ (outD neg ds).1 ≤ 4611686018427387903 := by
    intro neg ds h
    unfold outD at h ⊢
    split at h
    · simp at h
    · rename_i h1
      rw [if_neg h1]
      split at h
      · simp at h
      · rename_i h2
        rw [if_neg h2]
        cases neg
        · have h3 : ¬ (4611686018427387904 < val ds ∨ val ds = 4611686018427387904 ∧ false = false) := h2
          have h4 : ¬ 4611686018427387904 < val ds := fun e => h3 (.inl e)
          have h5 : ¬ val ds = 4611686018427387904 := fun e => h3 (.inr ⟨e, rfl⟩)
          show -4611686018427387904 ≤ (val ds : Int) ∧ (val ds : Int) ≤ 4611686018427387903
          omega
        · have h4 : ¬ 4611686018427387904 < val ds := fun e => h2 (.inl e)
          show -4611686018427387904 ≤ -(val ds : Int) ∧ -(val ds : Int) ≤ 4611686018427387903
          omega
  by_cases hn : ∃ t, L = 45 :: t
  · obtain ⟨t, rfl⟩ := hn
    exact key true t h
  · rw [out_pos L (fun t e => hn ⟨t, e⟩)] at h ⊢
    exact key false L h
theorem wordB_mem : ∀ (l : List UInt8) (p : Nat × Nat), ∀ c ∈ (wordB l p).1, ofW c = true
  | [], p, c, h => by cases h
  | d :: t, p, c, h => by
    rw [wordB] at h
    split at h
    · rename_i hd
      rcases List.mem_cons.1 h with rfl | h
      · exact hd
      · exact wordB_mem t _ c h
    · cases h
/-- a word's token -/
theorem wordS_ok {W : List UInt8} {k n : Int} {b : List UInt8} (hne : W ≠ []) (hw : ∀ c ∈ W, ofW c = true) (hl : W.length ≤ 6000) (h : wordS W = some (k, n, b)) : okD (k, n, b) ∧ (spS (k, n, b)).length ≤ W.length + 30 := by
  have h0 := h
  unfold wordS at h
  split at h
  · rename_i h2
    cases h
    obtain ⟨l1, l2⟩ := out_lim W h2
    refine ⟨.inr (.inr (.inl ⟨_, l1, l2, rfl⟩)), ?_⟩
    have := itoa_len _ l1 l2
    show (Lib.itoa (out W).1).length ≤ _
    omega
  · split at h
    · cases h
      exact ⟨.inr (.inr (.inr (.inl ⟨_, rfl⟩))), by show 3 ≤ _; omega⟩
    · split at h
      · cases h
      · split at h
        · cases h
          exact ⟨.inr (.inr (.inr (.inr (.inr ⟨6, W, .inr rfl, rfl, h0, hne, hw, hl⟩)))), by show W.length ≤ _; omega⟩
        · split at h
          · cases h
            exact ⟨.inr (.inr (.inr (.inr (.inr ⟨5, W, .inl rfl, rfl, h0, hne, hw, hl⟩)))), by show W.length ≤ _; omega⟩
          · cases h
theorem strS_len (first : Nat × Nat) : ∀ (f : Nat) (l : List UInt8) (p : Nat × Nat) (acc b r : List UInt8) (q : Nat × Nat), Fit l p → strS first f l p acc = .ok (b, r, q) → b.length + r.length ≤ acc.length + l.length ∧ b.length ≤ 4096
  | 0, l, p, acc, b, r, q, _, h => by rw [strS] at h; cases h
  | f + 1, [], p, acc, b, r, q, _, h => by rw [strS] at h; cases h
  | f + 1, c :: t, p, acc, b, r, q, hF, h => by
    have hT := hF.tail
    rw [strS] at h
    split at h
    · split at h
      · cases h
      · cases h; exact ⟨by rw [List.length_cons]; omega, by omega⟩
    · split at h
      · split at h
        · rename_i v l2 q2 he
          obtain ⟨k1, k2, _⟩ := escS_fit he hT
          obtain ⟨j1, j2⟩ := strS_len first f _ _ _ _ _ _ k1 h
          rw [List.length_append] at j1
          simp at j1
          exact ⟨by rw [List.length_cons]; omega, j2⟩
        · cases h
      · split at h
        · cases h
        · obtain ⟨j1, j2⟩ := strS_len first f _ _ _ _ _ _ hT h
          rw [List.length_append] at j1
          simp at j1
          exact ⟨by rw [List.length_cons]; omega, j2⟩
theorem tokS_ok {c : UInt8} {t : List UInt8} {p : Nat × Nat} {k : Tok} {l : List UInt8} {q : Nat × Nat} (hF : Fit (c :: t) p) (hb : blankB c = false) (h59 : c ≠ 59) (hw : (wordB (c :: t) p).1.length ≤ 6000) (h : tokS (c :: t) p = .ok (k, l, q)) : okD k.2 ∧ (spS k.2).length + 4 * l.length ≤ 4 * (c :: t).length + 30 := by
  rw [tokS] at h
  split at h
  · cases h; exact ⟨.inl rfl, by show 1 + _ ≤ _; rw [List.length_cons]; omega⟩
  · rename_i h40
    split at h
    · cases h; exact ⟨.inr (.inl rfl), by show 1 + _ ≤ _; rw [List.length_cons]; omega⟩
    · rename_i h41
      split at h
      · rename_i h34
        split at h
        · rename_i b2 l2 q2 hs
          cases h
          obtain ⟨j1, j2⟩ := strS_len p _ _ _ _ _ _ _ (h34 ▸ hF.tail) hs
          refine ⟨.inr (.inr (.inr (.inr (.inl ⟨b2, j2, rfl⟩)))), ?_⟩
          show (34 :: (spL b2 ++ [34])).length + _ ≤ _
          rw [List.length_cons, List.length_append, spL_len, List.length_cons]
          simp at j1 ⊢
          omega
        · cases h
      · rename_i h34
        have ho := ofW_of hb h40 h41 h34 h59
        split at h
        · rename_i kk n b hs
          injection h with h
          have e2 : (wordB (c :: t) p).2 = (l, q) := congrArg Prod.snd h
          have e1 : (p, kk, n, b) = k := congrArg Prod.fst h
          have hne : (wordB (c :: t) p).1 ≠ [] := by rw [wordB_cons ho]; exact List.cons_ne_nil _ _
          obtain ⟨j1, j2⟩ := wordS_ok hne (wordB_mem _ _) hw hs
          have hap := congrArg List.length (wordB_append (c :: t) p)
          rw [List.length_append, e2] at hap
          rw [← e1]
          refine ⟨j1, ?_⟩
          have hl1 : (wordB (c :: t) p).1.length + l.length = (c :: t).length := hap.symm
          show (spS (kk, n, b)).length + 4 * l.length ≤ _
          omega
        · cases h
/-- how long tokens are when written -/
def lenS (L : List Tok) : Nat := (L.map fun k => (spS k.2).length).sum
theorem scanS_ok : ∀ (n : Nat) (l : List UInt8) (p : Nat × Nat) (acc L : List Tok), Fit l p → (∀ c t, l = c :: t → blankB c = false ∧ c ≠ 59) → scanS n l p acc = some (.ok L) → ∃ L', L = acc ++ L' ∧ (∀ k ∈ L', okD k.2) ∧ ∀ m, lenS (L'.take m) ≤ 4 * l.length + 30 * m
  | n, [], p, acc, L, _, _, h => by rw [scanS_nil] at h; cases h; exact ⟨[], (by simp), (fun k hk => absurd hk (List.not_mem_nil)), (fun m => by simp [lenS])⟩
  | 0, c :: t, p, acc, L, _, _, h => by rw [scanS] at h; cases h
  | n + 1, c :: t, p, acc, L, hF, hh, h => by
    obtain ⟨h0, h59⟩ := hh c t rfl
    rw [scanS] at h
    split at h
    · cases h
    · rename_i hw
      cases ht : tokS (c :: t) p with
      | error r => rw [ht] at h; cases h
      | ok r =>
        obtain ⟨k, l, q⟩ := r
        rw [ht] at h
        obtain ⟨k1, k2⟩ := tokS_fit hF h0 h59 ht
        obtain ⟨s1, s2⟩ := skipB_fit false l q k1
        obtain ⟨L', e, hok, hlen⟩ := scanS_ok n _ _ _ _ s1 (fun c t h => skipB_head _ _ _ _ _ h) h
        obtain ⟨o1, o2⟩ := tokS_ok hF h0 h59 (by omega) ht
        refine ⟨k :: L', by rw [e, List.append_assoc]; rfl, fun d hd => ?_, fun m => ?_⟩
        · rcases List.mem_cons.1 hd with rfl | hd
          · exact o1
          · exact hok d hd
        · cases m with
          | zero => simp [lenS]
          | succ m =>
            have := hlen m
            show lenS (k :: L'.take m) ≤ _
            have e3 : lenS (k :: L'.take m) = (spS k.2).length + lenS (L'.take m) := by simp [lenS]
            rw [e3]
            omega
theorem scanL_ok {l : List UInt8} (hl : l.length ≤ 6000) {L : List Tok} (h : scanL l = some (.ok L)) : (∀ k ∈ L, okD k.2) ∧ ∀ m, lenS (L.take m) ≤ 4 * l.length + 30 * m := by
  have hF : Fit l (1, 1) := ⟨by show 1 + l.length ≤ _; omega, by show 1 + l.length ≤ _; omega, by omega⟩
  obtain ⟨s1, s2⟩ := skipB_fit false l (1, 1) hF
  obtain ⟨L', e, h1, h2⟩ := scanS_ok _ _ _ [] L s1 (fun c t h => skipB_head _ _ _ _ _ h) h
  rw [List.nil_append] at e
  subst e
  exact ⟨h1, fun m => Nat.le_trans (h2 m) (by omega)⟩
theorem adL_plain : ∀ (a : List UInt8) (p : Nat × Nat), (∀ c ∈ a, c ≠ 10) → adL a p = (p.1, p.2 + a.length)
  | [], p, _ => rfl
  | c :: t, p, h => by
    have e : adv c p = (p.1, p.2 + 1) := if_neg (h c (List.mem_cons_self ..))
    show adL t (adv c p) = _
    rw [e, adL_plain t _ (fun d hd => h d (List.mem_cons_of_mem _ hd)), List.length_cons, Nat.add_assoc, Nat.add_comm 1]
theorem adL_app (a b : List UInt8) (p : Nat × Nat) : adL (a ++ b) p = adL b (adL a p) := by
  unfold adL
  rw [List.foldl_append]
/-- a token that is written is told -/
theorem tokS_sp_ok {d : TokD} (hd : okD d) (D : List UInt8) (hD : ∀ c t, D = c :: t → ofW c = false) (p : Nat × Nat) :
    ∃ c t, spS d = c :: t ∧ blankB c = false ∧ c ≠ 59 ∧ (∀ x ∈ spS d, x ≠ 10) ∧ tokS (c :: (t ++ D)) p = .ok ((p, wtD d), D, (p.1, p.2 + (spS d).length)) ∧ (wordB (c :: (t ++ D)) p).1.length ≤ 6000 := by
  have word : ∀ (W : List UInt8) (k n : Int) (x : List UInt8), W ≠ [] → (∀ c ∈ W, ofW c = true) → W.length ≤ 6000 → wordS W = some (k, n, x) → spS d = W → wtD d = (k, n, x) →
      ∃ c t, spS d = c :: t ∧ blankB c = false ∧ c ≠ 59 ∧ (∀ x ∈ spS d, x ≠ 10) ∧ tokS (c :: (t ++ D)) p = .ok ((p, wtD d), D, (p.1, p.2 + (spS d).length)) ∧ (wordB (c :: (t ++ D)) p).1.length ≤ 6000 := by
    intro W k n x hne hw hl hs e1 e2
    cases W with
    | nil => exact absurd rfl hne
    | cons c t =>
      obtain ⟨a0, _, _, _, a59, _⟩ := ofW_not (hw c (List.mem_cons_self ..))
      refine ⟨c, t, e1, a0, a59, fun y hy => ?_, ?_, ?_⟩
      · rw [e1] at hy
        exact (ofW_not (hw y hy)).2.2.2.2.2
      · rw [e1, e2]
        exact tokS_word (a := c :: t) hne hw hD hs
      · have h := wordB_all (c :: t) D p hw hD
        rw [show c :: (t ++ D) = c :: t ++ D from rfl, h]
        exact hl
  rcases hd with rfl | rfl | ⟨n, n1, n2, rfl⟩ | ⟨x, rfl⟩ | ⟨x, hx, rfl⟩ | ⟨k, x, hk, rfl, hs, hne, hw, hl⟩
  · refine ⟨40, [], rfl, by decide, by decide, fun y hy => by rw [show spS (0, 0, []) = [40] from rfl] at hy; rw [List.mem_singleton.1 hy]; decide, ?_, ?_⟩
    · show tokS (40 :: D) p = _
      rw [tokS, if_pos rfl]; rfl
    · show (wordB (40 :: D) p).1.length ≤ _
      rw [wordB, if_neg (by decide)]; exact Nat.zero_le _
  · refine ⟨41, [], rfl, by decide, by decide, fun y hy => by rw [show spS (1, 0, []) = [41] from rfl] at hy; rw [List.mem_singleton.1 hy]; decide, ?_, ?_⟩
    · show tokS (41 :: D) p = _
      rw [tokS, if_neg (by decide), if_pos rfl]; rfl
    · show (wordB (41 :: D) p).1.length ≤ _
      rw [wordB, if_neg (by decide)]; exact Nat.zero_le _
  · obtain ⟨c, t, hct⟩ := itoa_cons n
    exact word (Lib.itoa n) 2 n [] (by rw [hct]; exact List.cons_ne_nil _ _) (itoa_word n) (by have := itoa_len n n1 n2; omega) (by unfold wordS; rw [out_itoa n n1 n2]; rfl) rfl rfl
  · exact word [48, 46, 53] 3 0 half (List.cons_ne_nil _ _) (by decide) (by decide) half_word rfl rfl
  · refine ⟨34, spL x ++ [34], rfl, by decide, by decide, fun y hy => ?_, ?_, ?_⟩
    · rw [show spS (4, 0, x) = 34 :: (spL x ++ [34]) from rfl] at hy
      rcases List.mem_cons.1 hy with rfl | hy
      · decide
      · rcases List.mem_append.1 hy with hy | hy
        · unfold spL at hy
          obtain ⟨b, _, hb⟩ := List.mem_flatMap.1 hy
          have h1 := (hexD_is (b.toNat / 16) (by have := b.toNat_lt; omega)).2.2
          have h2 := (hexD_is (b.toNat % 16) (by omega)).2.2
          unfold spB at hb
          simp only [List.mem_cons, List.not_mem_nil, or_false] at hb
          rcases hb with rfl | rfl | rfl | rfl
          · decide
          · decide
          · exact h1
          · exact h2
        · rw [List.mem_singleton.1 hy]; decide
    · show tokS (34 :: (spL x ++ [34] ++ D)) p = _
      rw [tokS, if_neg (by decide), if_neg (by decide), if_pos rfl, List.append_assoc]
      have e : (spL x ++ ([34] ++ D)).length = x.length + (3 * x.length + D.length + 1) := by rw [List.length_append, spL_len]; simp; omega
      rw [e, strS_sp]
      show (match strS p (3 * x.length + D.length + 1) (34 :: D) _ _ with | .ok (b, l, q) => _ | .error r => _) = _
      rw [strS, if_pos rfl, List.nil_append, if_neg (by omega)]
      have e1 : ∀ q, adv 34 q = (q.1, q.2 + 1) := fun q => if_neg (by decide)
      rw [e1, e1]
      show Except.ok ((p, 4, 0, x), D, (p.1, p.2 + 1 + 4 * x.length + 1)) = Except.ok ((p, wtD (4, 0, x)), D, (p.1, p.2 + (34 :: (spL x ++ [34])).length))
      rw [List.length_cons, List.length_append, spL_len, show p.2 + 1 + 4 * x.length + 1 = p.2 + (4 * x.length + [34].length + 1) by simp; omega]
      rfl
    · show (wordB (34 :: _) p).1.length ≤ _
      rw [wordB, if_neg (by decide)]; exact Nat.zero_le _
  · refine word x k 0 x hne hw hl hs ?_ ?_
    · rcases hk with rfl | rfl <;> rfl
    · rcases hk with rfl | rfl <;> rfl
/-- what may stand between tokens -/
def gapL : List (List UInt8) := [[32], [9], [10], [59, 32, 40, 120, 32, 34, 32, 121, 10], [32, 32, 10, 32]]
theorem gap_skip {g : List UInt8} (hg : g ∈ gapL) {c : UInt8} {t : List UInt8} (hb : blankB c = false) (h59 : c ≠ 59) (p : Nat × Nat) : skipB false (g ++ c :: t) p = (c :: t, adL g p) := by
  have hs : ∀ q, skipB false (c :: t) q = (c :: t, q) := fun q => skipB_stay hb h59
  have b32 : ∀ (u : List UInt8) (q : Nat × Nat), skipB false (32 :: u) q = skipB false u (adv 32 q) := fun u q => by rw [skipB, if_pos (by decide)]
  have b9 : ∀ (u : List UInt8) (q : Nat × Nat), skipB false (9 :: u) q = skipB false u (adv 9 q) := fun u q => by rw [skipB, if_pos (by decide)]
  have b10 : ∀ (u : List UInt8) (q : Nat × Nat), skipB false (10 :: u) q = skipB false u (adv 10 q) := fun u q => by rw [skipB, if_pos (by decide)]
  have b59 : ∀ (u : List UInt8) (q : Nat × Nat), skipB false (59 :: u) q = skipB true u (adv 59 q) := fun u q => by rw [skipB, if_neg (by decide), if_pos rfl]
  have t10 : ∀ (u : List UInt8) (q : Nat × Nat), skipB true (10 :: u) q = skipB false u (adv 10 q) := fun u q => by rw [skipB, if_pos rfl]
  have tn : ∀ (d : UInt8) (u : List UInt8) (q : Nat × Nat), d ≠ 10 → skipB true (d :: u) q = skipB true u (adv d q) := fun d u q h => by rw [skipB, if_neg h]
  unfold gapL at hg
  simp only [List.mem_cons, List.not_mem_nil, or_false] at hg
  rcases hg with rfl | rfl | rfl | rfl | rfl
  · show skipB false (32 :: c :: t) p = _
    rw [b32, hs]; rfl
  · show skipB false (9 :: c :: t) p = _
    rw [b9, hs]; rfl
  · show skipB false (10 :: c :: t) p = _
    rw [b10, hs]; rfl
  · show skipB false (59 :: 32 :: 40 :: 120 :: 32 :: 34 :: 32 :: 121 :: 10 :: c :: t) p = _
    rw [b59, tn 32 _ _ (by decide), tn 40 _ _ (by decide), tn 120 _ _ (by decide), tn 32 _ _ (by decide), tn 34 _ _ (by decide), tn 32 _ _ (by decide), tn 121 _ _ (by decide), t10, hs]; rfl
  · show skipB false (32 :: 32 :: 10 :: 32 :: c :: t) p = _
    rw [b32, b32, b10, b32, hs]; rfl
theorem gap_head {g : List UInt8} (hg : g ∈ gapL) (D : List UInt8) : ∃ c t, g ++ D = c :: t ∧ ofW c = false := by
  unfold gapL at hg
  simp only [List.mem_cons, List.not_mem_nil, or_false] at hg
  rcases hg with rfl | rfl | rfl | rfl | rfl
  · exact ⟨32, _, rfl, by decide⟩
  · exact ⟨9, _, rfl, by decide⟩
  · exact ⟨10, _, rfl, by decide⟩
  · exact ⟨59, _, rfl, by decide⟩
  · exact ⟨32, _, rfl, by decide⟩
/-- the text of tokens, each behind its gap -/
def outT : List (List UInt8 × TokD) → List UInt8
  | [] => []
  | (g, d) :: r => g ++ spS d ++ outT r
def wantT : List (List UInt8 × TokD) → Nat × Nat → List Tok
  | [], _ => []
  | (g, d) :: r, p => (adL g p, wtD d) :: wantT r (adL (g ++ spS d) p)
theorem outT_head : ∀ (r : List (List UInt8 × TokD)), (∀ x ∈ r, x.1 ∈ gapL) → ∃ c t, outT r ++ [10, 59] = c :: t ∧ ofW c = false
  | [], _ => ⟨10, [59], rfl, by decide⟩
  | (g, d) :: r, h => by
    obtain ⟨c, t, e, ho⟩ := gap_head (h (g, d) (List.mem_cons_self ..)) (spS d ++ (outT r ++ [10, 59]))
    exact ⟨c, t, by rw [← e]; show g ++ spS d ++ outT r ++ [10, 59] = _; simp, ho⟩
theorem scan_outT : ∀ (r : List (List UInt8 × TokD)) (p : Nat × Nat) (acc : List Tok) (f : Nat), (∀ x ∈ r, x.1 ∈ gapL ∧ okD x.2) → r.length ≤ f →
    scanS f (skipB false (outT r ++ [10, 59]) p).1 (skipB false (outT r ++ [10, 59]) p).2 acc = some (.ok (acc ++ wantT r p))
  | [], p, acc, f, _, _ => by
    have e : skipB false ([10, 59] : List UInt8) p = ([], adv 59 (adv 10 p)) := by
      rw [skipB, if_pos (by decide), skipB, if_neg (by decide), if_pos rfl]
      rfl
    show scanS f (skipB false [10, 59] p).1 (skipB false [10, 59] p).2 acc = _
    rw [e, scanS_nil]
    rw [show wantT [] p = [] from rfl, List.append_nil]
  | (g, d) :: r, p, acc, f, h, hf => by
    obtain ⟨hg, hd⟩ := h (g, d) (List.mem_cons_self ..)
    obtain ⟨f', rfl⟩ : ∃ f', f = f' + 1 := ⟨f - 1, by rw [List.length_cons] at hf; omega⟩
    obtain ⟨c0, t0, e0, ho0⟩ := outT_head r (fun x hx => (h x (List.mem_cons_of_mem _ hx)).1)
    obtain ⟨c, t, e, hb, h59, h10, htk, hw⟩ := tokS_sp_ok hd (outT r ++ [10, 59]) (fun c t h => by rw [e0] at h; cases h; exact ho0) (adL g p)
    have el : outT ((g, d) :: r) ++ [10, 59] = g ++ c :: (t ++ (outT r ++ [10, 59])) := by
      show g ++ spS d ++ outT r ++ [10, 59] = _
      rw [e]
      simp
    rw [el, gap_skip hg hb h59]
    show scanS (f' + 1) (c :: (t ++ (outT r ++ [10, 59]))) (adL g p) acc = _
    rw [scanS_next hw htk]
    have ep : ((adL g p).1, (adL g p).2 + (spS d).length) = adL (g ++ spS d) p := by rw [adL_app, adL_plain (spS d) _ h10]
    rw [ep, scan_outT r _ _ f' (fun x hx => h x (List.mem_cons_of_mem _ hx)) (by rw [List.length_cons] at hf; omega), List.append_assoc]
    rfl
theorem outT_len : ∀ r : List (List UInt8 × TokD), (∀ x ∈ r, x.1 ∈ gapL ∧ okD x.2) → r.length ≤ (outT r).length
  | [], _ => Nat.le_refl _
  | (g, d) :: r, h => by
    have ih := outT_len r (fun x hx => h x (List.mem_cons_of_mem _ hx))
    obtain ⟨c, t, e, _⟩ := gap_head (h (g, d) (List.mem_cons_self ..)).1 ([] : List UInt8)
    rw [List.append_nil] at e
    have e' : g = c :: t := e
    show r.length + 1 ≤ (g ++ spS d ++ outT r).length
    rw [List.length_append, List.length_append, e', List.length_cons]
    omega
theorem scan_blanks (r : List (List UInt8 × TokD)) (h : ∀ x ∈ r, x.1 ∈ gapL ∧ okD x.2) : scanL (outT r ++ [10, 59]) = some (.ok (wantT r (1, 1))) := by
  unfold scanL
  have hl := outT_len r h
  have h2 := scan_outT r (1, 1) [] (outT r ++ [10, 59]).length h (by rw [List.length_append]; omega)
  rw [List.nil_append] at h2
  exact h2
end Go.Proofs.Ytfpjeokncdlofaa
