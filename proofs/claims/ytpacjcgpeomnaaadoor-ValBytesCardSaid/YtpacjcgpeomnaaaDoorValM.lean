/- The document's words of val: Tame, as a function of trees; a kid more, and who keeps what. -/
import Derived.Test.YtpacjcgpeomnaaaDoorValK
import Derived.Maps.AppendAt
namespace Go.Proofs.YtpacjcgpeomnaaaDoor
open Go.ChangeShapes Go.WideShapes Go.ChangeAt Go.RowKit
set_option linter.unusedVariables false
set_option maxRecDepth 20000

mutual
/-- so many, so deep at most; how many are left -/
def tamT : T → Nat → Nat → T × Nat
  | .mk k n t ks, d, l => (.mk k n (t.extract 0 (min t.size 5000)) (tamL ks d (l - 1) 0).1, (tamL ks d (l - 1) 0).2)
def tamL : List T → Nat → Nat → Nat → List T × Nat
  | [], d, l, i => ([], l)
  | v :: vs, d, l, i => if 1 < d ∧ 0 < l ∧ i < 12 then ((tamT v (d - 1) l).1 :: (tamL vs d (tamT v (d - 1) l).2 (i + 1)).1, (tamL vs d (tamT v (d - 1) l).2 (i + 1)).2) else ([], l)
end
theorem tamT_eq (k n : Int) (t : ByteArray) (ks : List T) (d l : Nat) : tamT (.mk k n t ks) d l = (.mk k n (t.extract 0 (min t.size 5000)) (tamL ks d (l - 1) 0).1, (tamL ks d (l - 1) 0).2) := by conv => lhs; unfold tamT
theorem tamL_nil (d l i : Nat) : tamL [] d l i = ([], l) := by unfold tamL; rfl
theorem tamL_cons (v : T) (vs : List T) (d l i : Nat) : tamL (v :: vs) d l i = if 1 < d ∧ 0 < l ∧ i < 12 then ((tamT v (d - 1) l).1 :: (tamL vs d (tamT v (d - 1) l).2 (i + 1)).1, (tamL vs d (tamT v (d - 1) l).2 (i + 1)).2) else ([], l) := by conv => lhs; unfold tamL
theorem tamL_stop (ks : List T) (d l i : Nat) (h : ¬ (1 < d ∧ 0 < l ∧ i < 12)) : tamL ks d l i = ([], l) := by
  cases ks with
  | nil => rw [tamL_nil]
  | cons v vs => rw [tamL_cons, if_neg h]
theorem hts_nil : T.hts [] = 0 := by unfold T.hts; rfl
theorem hts_cons (a : T) (l : List T) : T.hts (a :: l) = max (T.ht a) (T.hts l) := by conv => lhs; unfold T.hts
theorem cnts_nil' : T.cnts [] = 0 := by unfold T.cnts; rfl
theorem cnts_cons' (a : T) (l : List T) : T.cnts (a :: l) = T.cnt a + T.cnts l := by conv => lhs; unfold T.cnts
def TamP (v : T) : Prop := ∀ d l, 1 ≤ l → (tamT v d l).2 + (tamT v d l).1.cnt ≤ l ∧ (1 ≤ d → (tamT v d l).1.ht ≤ d)
theorem tamL_le : ∀ (ks : List T), (∀ v ∈ ks, TamP v) → ∀ d l i, (tamL ks d l i).2 + T.cnts (tamL ks d l i).1 ≤ l ∧ (1 ≤ d → T.hts (tamL ks d l i).1 + 1 ≤ d)
  | [], _, d, l, i => by
    rw [tamL_nil]
    show l + T.cnts [] ≤ l ∧ (1 ≤ d → T.hts [] + 1 ≤ d)
    rw [cnts_nil', hts_nil]
    omega
  | v :: vs, h, d, l, i => by
    by_cases hc : 1 < d ∧ 0 < l ∧ i < 12
    · obtain ⟨h1, h2⟩ := h v (by simp) (d - 1) l (by omega)
      obtain ⟨h3, h4⟩ := tamL_le vs (fun x hx => h x (List.mem_cons_of_mem _ hx)) d (tamT v (d - 1) l).2 (i + 1)
      rw [tamL_cons, if_pos hc]
      show _ + T.cnts (_ :: _) ≤ l ∧ (1 ≤ d → T.hts (_ :: _) + 1 ≤ d)
      rw [cnts_cons', hts_cons]
      refine ⟨by omega, fun hd => ?_⟩
      have := h2 (by omega)
      have := h4 hd
      omega
    · rw [tamL_stop _ _ _ _ hc]
      show l + T.cnts [] ≤ l ∧ (1 ≤ d → T.hts [] + 1 ≤ d)
      rw [cnts_nil', hts_nil]
      omega
theorem tamT_le (v : T) : TamP v := by
  induction v using T.ind with
  | h k n t ks ih =>
    intro d l hl
    obtain ⟨h1, h2⟩ := tamL_le ks ih d (l - 1) 0
    rw [tamT_eq, T.cnt_eq, T.ht_eq]
    show (tamL ks d (l - 1) 0).2 + (1 + T.cnts (tamL ks d (l - 1) 0).1) ≤ l ∧ (1 ≤ d → 1 + T.hts (tamL ks d (l - 1) 0).1 ≤ d)
    refine ⟨by omega, fun hd => ?_⟩
    have := h2 hd
    omega
/-- a kid more: who keeps what -/
theorem app_val2 {B : Nat} {w : World} {v : Value} {L : List V} (hown : OwnV B v L w) (hB : B ≤ w.heap.size) (x : V) (hn : L.length ≤ 1000000) (ty : TypeId) :
    ∃ v' w', (Builtin.append_ #[22, 22] ty #[v, .slice (some ⟨w.heap.size, 0, none⟩) 1 1]).run Tryd.prog (w.alloc (.cells #[.int .i64 x.k, .int .i64 x.n, .string x.t, .slice x.a x.ks.length x.cap] 24)) = .ok v' w' ∧ OwnV B v' (L ++ [x]) w' ∧ Below B w w' ∧
      w.heap.size ≤ w'.heap.size ∧ (∀ q, q < w.heap.size → some q ≠ v.ownBlock → w'.heap[q]? = w.heap[q]?) ∧ (v'.ownBlock = v.ownBlock ∨ ∃ g, v'.ownBlock = some g ∧ w.heap.size ≤ g) := by
  obtain ⟨i0, hi, hz0, hz1, hz2⟩ := info_parts infoV
  have hal : Below w.heap.size w (w.alloc (.cells #[.int .i64 x.k, .int .i64 x.n, .string x.t, .slice x.a x.ks.length x.cap] 24)) := (Below.refl _ _).alloc (Nat.le_refl _) _
  have hown2 := ownV_later hown hal
  obtain ⟨v', w', hr, a1, a2, _, a3⟩ := run_append_own_at (P := Tryd.prog) _ B 22 ty 24 i0 _ 4 56 Tryd.underlying22 hi hz0 hz1 hz2 rfl (by decide) v L.length _ hown2 ⟨w.heap.size, 0, none⟩ 1 1 (cell4 x) rfl (fun j u hj => by
    have h9 : (w.alloc (.cells #[.int .i64 x.k, .int .i64 x.n, .string x.t, .slice x.a x.ks.length x.cap] 24)).heap[w.heap.size]? = some (.cells #[.int .i64 x.k, .int .i64 x.n, .string x.t, .slice x.a x.ks.length x.cap] 24) := by show (w.heap.push _)[w.heap.size]? = _; simp
    have hadd : (⟨w.heap.size, 0, none⟩ : Addr).add j = ⟨w.heap.size, j, none⟩ := by unfold Addr.add; split <;> simp_all
    rw [hadd]
    simp only [World.cell?, h9]
    have hlt : j < 4 := (List.getElem?_eq_some_iff.1 hj).1
    unfold cell4 at hj
    match j, hlt with
    | 0, _ => exact hj
    | 1, _ => exact hj
    | 2, _ => exact hj
    | 3, _ => exact hj) (fun u hu => by
      unfold cell4 at hu
      simp only [List.mem_cons, List.not_mem_nil, or_false] at hu
      rcases hu with rfl | rfl | rfl | rfl <;> rfl) (by unfold maxLen; omega) (by omega) (Nat.le_trans hB hal.size)
  refine ⟨v', w', hr, ?_, (hal.mono hB).trans ((Below.refl B _).grown a2 (Nat.le_trans hB hal.size) fun k hk => ?_), Nat.le_trans hal.size a2.size, fun q hq hne => ?_, ?_⟩
  · unfold OwnV
    rw [cellsJ_snoc, List.length_append]
    exact a1
  · rcases hown.2 with ⟨h0, _⟩ | ⟨g', cap, cur, hv, hg, _⟩
    · rw [h0] at hk; cases hk
    · rw [hv] at hk; cases hk; exact hg
  · rw [a2.block q (Nat.lt_of_lt_of_le hq hal.size) hne, hal.block q hq]
  · rcases a3 with h | h
    · exact .inl h
    · exact .inr ⟨_, h, hal.size⟩
end Go.Proofs.YtpacjcgpeomnaaaDoor
