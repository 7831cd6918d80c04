/- Pieces of the law WireBack's walk: what came in; appending what is written. -/
import Derived.Test.YtflgodphphbbjaaBackM
import Derived.Test.YtflgodphphbbjaaOnceW
import Derived.Deep.AppendLies
import Derived.Deep.RegionHeld3
namespace Go.Proofs.Ytflgodphphbbjaa
open Go.ChangeShapes Go.WideShapes Go.ChangeAt Go.RowKit Go.Lib
set_option linter.unusedVariables false

def SrcI (w : World) (sp : Option Addr) (ns : List Int) : Prop := 0 < ns.length → ∃ g o, sp = some ⟨g, o, none⟩ ∧ ∀ i, i < ns.length → w.cell? ⟨g, o + i, none⟩ = some (.int .i64 (ns.getD i 0))
def SrcS (w : World) (sp : Option Addr) (us : List ByteArray) : Prop := 0 < us.length → ∃ g o, sp = some ⟨g, o, none⟩ ∧ ∀ i, i < us.length → w.cell? ⟨g, o + i, none⟩ = some (.string (us.getD i ByteArray.empty))
theorem srcI_later {w W : World} {sp : Option Addr} {ns : List Int} (h : SrcI w sp ns) (hb : Below w.heap.size w W) : SrcI W sp ns := fun hp => by
  obtain ⟨g, o, e, hc⟩ := h hp
  exact ⟨g, o, e, fun i hi => by rw [hb.cell (World.block_lt_of_cell? w _ (hc i hi))]; exact hc i hi⟩
theorem srcS_later {w W : World} {sp : Option Addr} {us : List ByteArray} (h : SrcS w sp us) (hb : Below w.heap.size w W) : SrcS W sp us := fun hp => by
  obtain ⟨g, o, e, hc⟩ := h hp
  exact ⟨g, o, e, fun i hi => by rw [hb.cell (World.block_lt_of_cell? w _ (hc i hi))]; exact hc i hi⟩
/-- a text, of which no more than 200 bytes -/
def cutT (t : ByteArray) : ByteArray := t.extract 0 (min t.size 200)
theorem cutT_size (t : ByteArray) : (cutT t).size ≤ 200 := by unfold cutT; rw [ByteArray.size_extract]; omega
theorem cutT_of (t : ByteArray) : ∃ m : Nat, (if (200 : Int) < (t.size : Int) then 200 else (t.size : Int)) = (m : Int) ∧ m ≤ t.size ∧ t.extract 0 m = cutT t := by
  by_cases h : 200 < t.size
  · exact ⟨200, by rw [if_pos (by omega)]; rfl, by omega, by unfold cutT; rw [Nat.min_eq_right (by omega)]⟩
  · exact ⟨t.size, by rw [if_neg (by omega)], Nat.le_refl _, by unfold cutT; rw [Nat.min_eq_left (by omega)]⟩
theorem own_kept {B : Nat} {v : Value} {l : List Nat} {w W : World} (h : Own B v l w) (hb : Below w.heap.size w W) : Own B v l W := by
  refine ⟨h.1, ?_⟩
  rcases h.2 with h2 | ⟨g, cap, cur, h1, h2, h3, h4⟩
  · exact .inl h2
  · refine .inr ⟨g, cap, cur, h1, h2, ?_, h4⟩
    have hlt : g < w.heap.size := by
      rcases Nat.lt_or_ge g w.heap.size with hlt | hge
      · exact hlt
      · rw [Array.getElem?_eq_none hge] at h3; cases h3
    exact (hb.block g hlt).trans h3
theorem own_news {B : Nat} {v : Value} {l : List Nat} {w : World} (h : Own B v l w) (hl : 0 < l.length) : ∃ g cap, v = .slice (some ⟨g, 0, none⟩) l.length cap ∧ B ≤ g ∧ (∀ j u, (cells l)[j]? = some u → w.cell? ((⟨g, 0, none⟩ : Addr).add j) = some u) := by
  obtain ⟨g, cap, hv, hb, _⟩ := World.ownsRow.form h hl
  exact ⟨g, cap, hv, hb, World.ownsRow.cells h (by rw [hv]; rfl)⟩
theorem own_join {B : Nat} {v : Value} {l x : List Nat} {w : World} (h : w.ownsRow B 5 1 v (l.length + x.length) (cells l ++ cells x)) : Own B v (l ++ x) w := by
  unfold Own
  rw [List.length_append]
  have e : cells (l ++ x) = cells l ++ cells x := by simp [cells]
  rw [e]
  exact h
theorem own_at {B : Nat} {v : Value} {l : List Nat} {w : World} (h : Own B v l w) (hl : 0 < l.length) : ∃ g cap, v = .slice (some ⟨g, 0, none⟩) l.length cap ∧ B ≤ g ∧ g < w.heap.size ∧ l.length ≤ cap ∧ cap ≤ 9223372036854775807 ∧ At w g 0 l := by
  obtain ⟨a, cap, rfl⟩ := own_form h
  obtain ⟨g, rfl, h1, h2, h3⟩ := own_cell h hl
  have hc : l.length ≤ cap ∧ cap ≤ 9223372036854775807 := by
    rcases h.2 with ⟨h4, _⟩ | ⟨g', cap', cur, h4, _, _, h5, h6, _⟩
    · cases h4
    · cases h4; unfold maxLen at h6; omega
  refine ⟨g, cap, rfl, h1, h2, hc.1, hc.2, fun i hi => ?_⟩
  rw [Nat.zero_add, h3 i hi]
  congr 2
  simp [List.getD, hi]
theorem num_app (n : Int) (hn : IntOk n) (w : World) : Calls Try.prog 9 #[.int .i64 n] w fun e w' => ∃ g cap, e = .returned (.slice (some ⟨g, 0, none⟩) (vb (zz n)).length cap) ∧ Hid (∀ j u, (cells (vb (zz n)))[j]? = some u → w'.cell? ((⟨g, 0, none⟩ : Addr).add j) = some u) ∧ Hid (Below w.heap.size w w') :=
  (num_any n hn.1 hn.2 w).mono fun e w' ⟨v, he, ho, hb⟩ => by
    obtain ⟨g, cap, rfl, _, hc⟩ := own_news (by exact ho) (vb_pos _)
    exact ⟨g, cap, he, Lib.hid hc, Lib.hid hb⟩
theorem wT_pos (t : ByteArray) : 0 < (wT t).length := by unfold wT; rw [List.length_append]; have := vb_pos (zz (t.size : Int)); omega
theorem str_app (t : ByteArray) (ht : t.size ≤ 200) (w : World) : Calls Try.prog 11 #[.string t] w fun e w' => ∃ g cap, e = .returned (.slice (some ⟨g, 0, none⟩) (wT t).length cap) ∧ Hid (∀ j u, (cells (wT t))[j]? = some u → w'.cell? ((⟨g, 0, none⟩ : Addr).add j) = some u) ∧ Hid (Below w.heap.size w w') :=
  (str_any t (by omega) w).mono fun e w' ⟨v, he, ho, hb⟩ => by
    obtain ⟨g, cap, rfl, _, hc⟩ := own_news (l := wT t) ho (wT_pos t)
    exact ⟨g, cap, he, Lib.hid hc, Lib.hid hb⟩
theorem encN_snoc (ns : List Int) (i : Nat) (h : i < ns.length) : (encN (ns.take (i + 1))).flatten = (encN (ns.take i)).flatten ++ vb (zz (ns.getD i 0)) := by
  have e : ns.take (i + 1) = ns.take i ++ [ns.getD i 0] := by rw [List.take_add_one]; simp [List.getD, h]
  rw [e]; simp [encN]
theorem encT_snoc (ts : List ByteArray) (i : Nat) (h : i < ts.length) : (encT (ts.take (i + 1))).flatten = (encT (ts.take i)).flatten ++ wT (ts.getD i ByteArray.empty) := by
  have e : ts.take (i + 1) = ts.take i ++ [ts.getD i ByteArray.empty] := by rw [List.take_add_one]; simp [List.getD, h]
  rw [e]; simp [encT]
theorem encN_cons (ns : List Int) (i : Nat) (h : i < ns.length) : (encN (ns.drop i)).flatten = vb (zz (ns.getD i 0)) ++ (encN (ns.drop (i + 1))).flatten := by
  have e : ns.drop i = ns.getD i 0 :: ns.drop (i + 1) := by rw [List.drop_eq_getElem_cons h]; simp [List.getD, h]
  rw [e]; simp [encN]
theorem encT_cons (ts : List ByteArray) (i : Nat) (h : i < ts.length) : (encT (ts.drop i)).flatten = wT (ts.getD i ByteArray.empty) ++ (encT (ts.drop (i + 1))).flatten := by
  have e : ts.drop i = ts.getD i ByteArray.empty :: ts.drop (i + 1) := by rw [List.drop_eq_getElem_cons h]; simp [List.getD, h]
  rw [e]; simp [encT]
theorem map_cut_get (us : List ByteArray) (i : Nat) (h : i < us.length) : (us.map cutT).getD i ByteArray.empty = cutT (us.getD i ByteArray.empty) := by simp [List.getD, h]
theorem getD_int {ns : List Int} (h : ∀ n ∈ ns, IntOk n) (i : Nat) : IntOk (ns.getD i 0) := by
  by_cases hi : i < ns.length
  · have e : ns.getD i 0 = ns[i] := by simp [List.getD, hi]
    rw [e]; exact h _ (List.getElem_mem hi)
  · have e : ns.getD i 0 = 0 := by simp [List.getD, hi]
    rw [e]; exact ⟨by decide, by decide⟩
theorem mod_cut1 (cut : Int) (m : Nat) (hm0 : 0 < m) (hm : m ≤ 100000) : ∃ k : Nat, wrap64 ((IntKind.u64.wrap cut).tmod (m : Int)) = (k : Int) ∧ k < m := by
  have h0 : 0 ≤ IntKind.u64.wrap cut := by rw [IntKind.wrap_u64]; omega
  refine ⟨((IntKind.u64.wrap cut).tmod (m : Int)).toNat, ?_, ?_⟩
  · rw [Int.tmod_eq_emod_of_nonneg h0]
    unfold wrap64
    generalize IntKind.u64.wrap cut = x at *
    have h1 := Int.emod_nonneg x (show (m : Int) ≠ 0 by omega)
    have h2 := Int.emod_lt_of_pos x (show 0 < (m : Int) by omega)
    generalize x % (m : Int) = y at *
    omega
  · rw [Int.tmod_eq_emod_of_nonneg h0]
    generalize IntKind.u64.wrap cut = x at *
    have h2 := Int.emod_lt_of_pos x (show 0 < (m : Int) by omega)
    generalize x % (m : Int) = y at *
    omega
theorem src_of_at {w : World} {g o : Nat} {L : List Nat} (h : At w g o L) : Src w (some ⟨g, o, none⟩) L := fun _ => ⟨_, rfl, fun i hi => by
  have e : (⟨g, o, none⟩ : Addr).add i = ⟨g, o + i, none⟩ := by unfold Addr.add; split <;> simp_all
  rw [e]; exact h i hi⟩
theorem at_take {w : World} {g o : Nat} {L : List Nat} (h : At w g o L) (k : Nat) : At w g o (L.take k) := fun i hi => by
  rw [List.length_take] at hi
  rw [h i (by omega)]
  congr 2
  simp [List.getD, show i < k by omega]
end Go.Proofs.Ytflgodphphbbjaa
