/- LexJoins: what its walk wants. -/
import Derived.Test.YtfpjeokncdlofaaLexJp
import Derived.Test.YtfpjeokncdlofaaLexSa
import Derived.Test.YtfpjeokncdlofaaLexSp
namespace Go.Proofs.Ytfpjeokncdlofaa
open Go.ChangeShapes Go.WideShapes Go.ChangeAt Go.RowKit Go.Joins
open Go.Proofs.Ytfpjeokncdlofaa.Fn (st st_size st_list st_extract)
set_option linter.unusedVariables false
set_option maxRecDepth 20000

theorem own_below {w W : World} {B : Nat} {e : TypeId} {z : Nat} {v : Value} {n : Nat} {xs : List Value} (h : w.ownsRow B e z v n xs) (hW : Below w.heap.size w W) : W.ownsRow B e z v n xs := by
  refine ⟨h.1, ?_⟩
  rcases h.2 with h0 | ⟨g', cap, cur, hv, hb, hg, rest⟩
  · exact .inl h0
  · exact .inr ⟨g', cap, cur, hv, hb, (hW.block g' (Array.getElem?_eq_some_iff.1 hg).1).trans hg, rest⟩
/-- whatever a text is -/
theorem lexScan_some (l : List UInt8) (hl : l.length ≤ 6000) (w : World) :
    Calls Try.prog 10 #[.string (st l)] w fun e w' => ∃ va vn vc a b c, e = .returned (.tuple #[.slice va vn vc, .agg #[.int .i64 a, .int .i64 b], .int .i64 c]) ∧ Hid (Below w.heap.size w w') := by
  obtain ⟨R, hR⟩ := scanL_some l hl
  cases R with
  | ok L =>
    refine (lexScan_ok l (by omega) L hR w).mono ?_
    rintro e w' ⟨v, rfl, ho, hb⟩
    obtain ⟨va, vc, rfl⟩ := own_sl ho.out
    exact ⟨va, _, vc, 0, 0, 0, rfl, hb⟩
  | error r =>
    refine (lexScan_no l (by omega) r hR w).mono ?_
    rintro e w' ⟨rfl, hb⟩
    exact ⟨none, 0, 0, _, _, _, rfl, hb⟩
/-- a token stands where it begins -/
theorem tokS_place {c : UInt8} {t : List UInt8} {p : Nat × Nat} {k : Tok} {l : List UInt8} {q : Nat × Nat} (h : tokS (c :: t) p = .ok (k, l, q)) : k.1 = p := by
  rw [tokS] at h
  split at h
  · cases h; rfl
  · split at h
    · cases h; rfl
    · split at h
      · split at h
        · cases h; rfl
        · cases h
      · split at h
        · injection h with h
          have e1 : (p, _, _, _) = k := congrArg Prod.fst h
          rw [← e1]
        · cases h
theorem scanS_places : ∀ (n : Nat) (l : List UInt8) (p : Nat × Nat) (acc L : List Tok), Fit l p → (∀ c t, l = c :: t → blankB c = false ∧ c ≠ 59) → (∀ k ∈ acc, k.1.1 ≤ 200000) → scanS n l p acc = some (.ok L) → ∀ k ∈ L, k.1.1 ≤ 200000
  | n, [], p, acc, L, _, _, ha, h => by rw [scanS_nil] at h; cases h; exact ha
  | 0, c :: t, p, acc, L, _, _, ha, h => by rw [scanS] at h; cases h
  | n + 1, c :: t, p, acc, L, hF, hh, ha, h => by
    obtain ⟨h0, h59⟩ := hh c t rfl
    rw [scanS] at h
    split at h
    · cases h
    · cases ht : tokS (c :: t) p with
      | error r => rw [ht] at h; cases h
      | ok r =>
        obtain ⟨k, l, q⟩ := r
        rw [ht] at h
        obtain ⟨k1, k2⟩ := tokS_fit hF h0 h59 ht
        obtain ⟨s1, s2⟩ := skipB_fit false l q k1
        refine scanS_places n _ _ (acc ++ [k]) L s1 (fun c t h => skipB_head _ _ _ _ _ h) (fun d hd => ?_) h
        rcases List.mem_append.1 hd with hd | hd
        · exact ha d hd
        · rw [List.mem_singleton.1 hd, tokS_place ht]
          have := hF.1
          omega
theorem scanL_places {l : List UInt8} (hl : l.length ≤ 6000) {L : List Tok} (h : scanL l = some (.ok L)) : ∀ k ∈ L, k.1.1 ≤ 200000 := by
  have hF : Fit l (1, 1) := ⟨by show 1 + l.length ≤ _; omega, by show 1 + l.length ≤ _; omega, by omega⟩
  obtain ⟨s1, s2⟩ := skipB_fit false l (1, 1) hF
  exact scanS_places _ _ _ [] L s1 (fun c t h => skipB_head _ _ _ _ _ h) (fun _ h => by cases h) h
theorem scanS_count : ∀ (n : Nat) (l : List UInt8) (p : Nat × Nat) (acc L : List Tok), scanS n l p acc = some (.ok L) → L.length ≤ acc.length + n
  | n, [], p, acc, L, h => by rw [scanS_nil] at h; cases h; omega
  | 0, c :: t, p, acc, L, h => by rw [scanS] at h; cases h
  | n + 1, c :: t, p, acc, L, h => by
    rw [scanS] at h
    split at h
    · cases h
    · cases ht : tokS (c :: t) p with
      | error r => rw [ht] at h; cases h
      | ok r =>
        obtain ⟨k, l, q⟩ := r
        rw [ht] at h
        have := scanS_count n _ _ _ _ h
        rw [List.length_append] at this
        simp at this
        omega
theorem scanL_count {l : List UInt8} {L : List Tok} (h : scanL l = some (.ok L)) : L.length ≤ l.length := by
  have := scanS_count _ _ _ _ _ h
  simpa using this
theorem strS_err (first : Nat × Nat) (h1 : first.1 ≤ 200000) : ∀ (n : Nat) (l : List UInt8) (p : Nat × Nat) (acc : List UInt8) (r : Nat × Nat), Fit l p → strS first n l p acc = .error r → r.1 ≤ 200000
  | 0, l, p, acc, r, _, h => by rw [strS] at h; cases h; exact h1
  | n + 1, [], p, acc, r, _, h => by rw [strS] at h; cases h; exact h1
  | n + 1, c :: t, p, acc, r, hF, h => by
    have hT := hF.tail
    rw [strS] at h
    split at h
    · split at h
      · cases h; exact h1
      · cases h
    · split at h
      · split at h
        · rename_i v l2 q2 he
          obtain ⟨k1, _⟩ := escS_fit he hT
          exact strS_err first h1 n _ _ _ _ k1 h
        · cases h
          have := hT.1
          omega
      · split at h
        · cases h
          have := hF.1
          omega
        · exact strS_err first h1 n _ _ _ _ hT h
theorem tokS_err {c : UInt8} {t : List UInt8} {p r : Nat × Nat} (hF : Fit (c :: t) p) (h : tokS (c :: t) p = .error r) : r.1 ≤ 200000 := by
  have hp : p.1 ≤ 200000 := by have := hF.1; omega
  rw [tokS] at h
  split at h
  · cases h
  · split at h
    · cases h
    · split at h
      · rename_i h34
        split at h
        · cases h
        · rename_i r2 hs
          cases h
          exact strS_err p hp _ _ _ _ _ (h34 ▸ hF.tail) hs
      · split at h
        · cases h
        · cases h; exact hp
theorem scanS_err : ∀ (n : Nat) (l : List UInt8) (p : Nat × Nat) (acc : List Tok) (r : Nat × Nat), Fit l p → (∀ c t, l = c :: t → blankB c = false ∧ c ≠ 59) → scanS n l p acc = some (.error r) → r.1 ≤ 200000
  | n, [], p, acc, r, _, _, h => by rw [scanS_nil] at h; cases h
  | 0, c :: t, p, acc, r, _, _, h => by rw [scanS] at h; cases h
  | n + 1, c :: t, p, acc, r, hF, hh, h => by
    obtain ⟨h0, h59⟩ := hh c t rfl
    rw [scanS] at h
    split at h
    · cases h
    · cases ht : tokS (c :: t) p with
      | error r2 => rw [ht] at h; cases h; exact tokS_err hF ht
      | ok r2 =>
        obtain ⟨k, l, q⟩ := r2
        rw [ht] at h
        obtain ⟨k1, k2⟩ := tokS_fit hF h0 h59 ht
        obtain ⟨s1, s2⟩ := skipB_fit false l q k1
        exact scanS_err n _ _ _ r s1 (fun c t h => skipB_head _ _ _ _ _ h) h
theorem scanL_err {l : List UInt8} (hl : l.length ≤ 6000) {r : Nat × Nat} (h : scanL l = some (.error r)) : r.1 ≤ 200000 := by
  have hF : Fit l (1, 1) := ⟨by show 1 + l.length ≤ _; omega, by show 1 + l.length ≤ _; omega, by omega⟩
  obtain ⟨s1, s2⟩ := skipB_fit false l (1, 1) hF
  exact scanS_err _ _ _ [] r s1 (fun c t h => skipB_head _ _ _ _ _ h) h
/-- onto nothing a row of tokens -/
theorem app_nil {w : World} {B : Nat} {u : Value} {L : List Tok} (hu : w.ownsRow B 38 5 u L.length (cellsT L)) (hn : L.length ≤ 1000000) (ty : TypeId) :
    ∃ v' w', (Builtin.append_ #[29, 29] ty #[.slice none 0 0, u]).run Try.prog w = .ok v' w' ∧ w'.ownsRow w.heap.size 38 5 v' L.length (cellsT L) ∧ Below w.heap.size w w' := by
  obtain ⟨i0, hi, hz0, hz1, hz2⟩ := info_parts infoR
  rcases hu.2 with ⟨hv, h0⟩ | ⟨g, cap, cur, hv, hb, hg, hc, hm, hs, ht⟩
  · have hL : L = [] := List.eq_nil_of_length_eq_zero h0
    subst hv hL
    refine ⟨.slice none 0 0, w, ?_, World.ownsRow_nil _ _ _ _, Below.refl _ _⟩
    simp [Builtin.append_, run_underlying Try.underlying29, sizeOf, typeInfo, hi, Builtin.lenOf, Builtin.firstCells]
  · subst hv
    have hown : w.ownsRow w.heap.size 38 5 (.slice none 0 0) 0 [] := World.ownsRow_nil _ _ _ _
    obtain ⟨v', w', hr, a1, a2, _⟩ := run_append_own (P := Try.prog) w w.heap.size 29 ty 38 i0 _ 5 48 Try.underlying29 hi hz0 hz1 hz2 rfl (by decide) (.slice none 0 0) 0 [] hown ⟨g, 0, none⟩ L.length cap (cellsT L) (by rw [cellsT_len]; omega) (fun j u hj => World.ownsRow.cells hu (g := g) rfl j u hj) (fun u hu2 => by
      unfold cellsT at hu2
      obtain ⟨k, _, hk⟩ := List.mem_flatMap.1 hu2
      unfold Tok.cells at hk
      simp only [List.mem_cons, List.not_mem_nil, or_false] at hk
      rcases hk with rfl | rfl | rfl | rfl | rfl <;> rfl) (by unfold maxLen; omega) (by omega) (Nat.le_refl _)
    rw [Nat.zero_add, List.nil_append] at a1
    exact ⟨v', w', hr, a1, (Below.refl w.heap.size w).grown a2 (Nat.le_refl _) fun k hk => by cases hk⟩
/-- a token behind a row of the document's -/
theorem app_tokR {B : Nat} {w : World} {v : Value} {L : List Tok} (hown : w.ownsRow B 38 5 v L.length (cellsT L)) (hB : B ≤ w.heap.size) (k : Tok) (tb : ByteArray) (htb : st k.2.2.2 = tb) (hn : L.length ≤ 1000000) (ty : TypeId) :
    ∃ v' w', (Builtin.append_ #[29, 29] ty #[v, .slice (some ⟨w.heap.size, 0, none⟩) 1 1]).run Try.prog (w.alloc (.cells #[.int .i64 k.2.1, .int .i64 (k.1.1 : Int), .int .i64 (k.1.2 : Int), .int .i64 k.2.2.1, .string tb] 38)) = .ok v' w' ∧ w'.ownsRow B 38 5 v' (L ++ [k]).length (cellsT (L ++ [k])) ∧ Below B w w' := by
  obtain ⟨i0, hi, hz0, hz1, hz2⟩ := info_parts infoR
  have hal : Below w.heap.size w (w.alloc (.cells #[.int .i64 k.2.1, .int .i64 (k.1.1 : Int), .int .i64 (k.1.2 : Int), .int .i64 k.2.2.1, .string tb] 38)) := (Below.refl _ _).alloc (Nat.le_refl _) _
  have hown2 : (w.alloc (.cells #[.int .i64 k.2.1, .int .i64 (k.1.1 : Int), .int .i64 (k.1.2 : Int), .int .i64 k.2.2.1, .string tb] 38)).ownsRow B 38 5 v L.length (cellsT L) := own_keepS (S := fun _ => False) hown (Only.of_below hal) (fun _ _ h => h)
  obtain ⟨v', w', hr, a1, a2, _⟩ := run_append_own (P := Try.prog) _ B 29 ty 38 i0 _ 5 48 Try.underlying29 hi hz0 hz1 hz2 rfl (by decide) v L.length _ hown2 ⟨w.heap.size, 0, none⟩ 1 1 (Tok.cells k) rfl (fun j u hj => by
    have h9 : (w.alloc (.cells #[.int .i64 k.2.1, .int .i64 (k.1.1 : Int), .int .i64 (k.1.2 : Int), .int .i64 k.2.2.1, .string tb] 38)).heap[w.heap.size]? = some (.cells #[.int .i64 k.2.1, .int .i64 (k.1.1 : Int), .int .i64 (k.1.2 : Int), .int .i64 k.2.2.1, .string tb] 38) := by show (w.heap.push _)[w.heap.size]? = _; simp
    have hadd : (⟨w.heap.size, 0, none⟩ : Addr).add j = ⟨w.heap.size, j, none⟩ := by unfold Addr.add; split <;> simp_all
    rw [hadd]
    simp only [World.cell?, h9]
    have hlt : j < 5 := (List.getElem?_eq_some_iff.1 hj).1
    unfold Tok.cells at hj
    rw [htb] at hj
    match j, hlt with
    | 0, _ => exact hj
    | 1, _ => exact hj
    | 2, _ => exact hj
    | 3, _ => exact hj
    | 4, _ => exact hj) (fun u hu => by
      unfold Tok.cells at hu
      simp only [List.mem_cons, List.not_mem_nil, or_false] at hu
      rcases hu with rfl | rfl | rfl | rfl | rfl <;> rfl) (by unfold maxLen; omega) (by omega) (Nat.le_trans hB hal.size)
  refine ⟨v', w', hr, ?_, (hal.mono hB).trans ((Below.refl B _).grown a2 (Nat.le_trans hB hal.size) fun k hk => ?_)⟩
  · rw [cellsT_snoc, List.length_append]
    exact a1
  · rcases hown.2 with ⟨h0, _⟩ | ⟨g', cap, cur, hv, hg, _⟩
    · rw [h0] at hk; cases hk
    · rw [hv] at hk; cases hk; exact hg
end Go.Proofs.Ytfpjeokncdlofaa
