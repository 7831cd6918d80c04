/- Rows of texts that are put together; what stays of them; a log whose power may go, beside such rows. -/
import Derived.Test.YtfhgdcljhncjmaaDoorWalZH
namespace Go.Proofs.YtfhgdcljhncjmaaDoor
open Go.ChangeShapes Go.WideShapes Go.ChangeAt Go.RowKit
set_option linter.unusedVariables false
set_option maxRecDepth 20000

/-- rows of texts of at most N stay -/
def RK (b N : Nat) (w w' : World) : Prop := Below b w w' ∧ ∀ v n xs, n ≤ N → w.ownsRow b 9 1 v n xs → w'.ownsRow b 9 1 v n xs
theorem RK.refl {b N : Nat} (w : World) : RK b N w w := ⟨Below.refl b w, fun _ _ _ _ h => h⟩
theorem RK.trans {b N : Nat} {u v w : World} (h : RK b N u v) (k : RK b N v w) : RK b N u w := ⟨h.1.trans k.1, fun v n xs hn ho => k.2 v n xs hn (h.2 v n xs hn ho)⟩
theorem own_past {w w' : World} {b : Nat} {e : TypeId} {z : Nat} {v : Value} {n : Nat} {xs : List Value} (h : w.ownsRow b e z v n xs) (hb : Below w.heap.size w w') : w'.ownsRow b e z v n xs := own_same h fun q cur _ hc => by
  rw [hb.block q (Array.getElem?_eq_some_iff.1 hc).1]; exact hc
theorem rk_of_below {b N : Nat} {w w' : World} (h : Below w.heap.size w w') (hb : b ≤ w.heap.size) : RK b N w w' := ⟨h.mono hb, fun _ _ _ _ h1 => own_past h1 h⟩
theorem info_str : (Tryd.prog.info? 9).map (fun i => (i.zero, i.size, i.bytes)) = some (some (.string ⟨#[]⟩), 1, 16) := by kernel_rfl
theorem strs_len (ss : List ByteArray) : (Fk.strs ss).length = ss.length := List.length_map _
theorem run_append_nil_run (w : World) (k : Nat) (ty : TypeId) : (Builtin.append_ #[33, 33] ty #[.slice (some ⟨k, 0, none⟩) 0 0, .slice none 0 0]).run Tryd.prog w = .ok (.slice (some ⟨k, 0, none⟩) 0 0) w := by
  obtain ⟨i0, hi, he⟩ := Option.map_eq_some_iff.1 info_str
  simp [Builtin.append_, run_underlying Tryd.underlying33, sizeOf, typeInfo, hi, Builtin.lenOf, run_firstCells_none, storeCells]
theorem own_empty {b : Nat} (W : World) (hb : b ≤ W.heap.size) : (W.alloc (.cells #[] 9)).ownsRow b 9 1 (.slice (some ⟨W.heap.size, 0, none⟩) 0 0) 0 [] :=
  ⟨rfl, .inr ⟨W.heap.size, 0, #[], rfl, hb, al_new _ _ _ rfl, Nat.le_refl _, by decide, rfl, rfl⟩⟩
theorem own_one {b : Nat} (W : World) (hb : b ≤ W.heap.size) (s : ByteArray) : (W.alloc (.cells #[.string s] 9)).ownsRow b 9 1 (.slice (some ⟨W.heap.size, 0, none⟩) 1 1) 1 (Fk.strs [s]) :=
  ⟨rfl, .inr ⟨W.heap.size, 1, #[.string s], rfl, hb, al_new _ _ _ rfl, Nat.le_refl _, by decide, rfl, rfl⟩⟩
theorem one_at {W : World} {b k : Nat} {s : ByteArray} (h : W.ownsRow b 9 1 (.slice (some ⟨k, 0, none⟩) 1 1) 1 (Fk.strs [s])) : ∀ (j : Nat) u, [s][j]? = some u → W.cell? ((⟨k, 0, none⟩ : Addr).add j) = some (.string u) := fun j u hj => by
  have hlt : j < 1 := (List.getElem?_eq_some_iff.1 hj).1
  have h1 := World.ownsRow.cellAt h j (by omega)
  rw [strs_get, hj] at h1
  rw [add_off, Nat.zero_add]
  simpa using h1
theorem app_some {b : Nat} {w : World} {v : Value} {n : Nat} {xs : List Value} (hown : w.ownsRow b 9 1 v n xs) (hb : b ≤ w.heap.size) (h0 : n = 0 → ∃ k, v = .slice k 0 0) (ad : Addr) (m c : Nat) (ss : List ByteArray) (hm : ss.length = m) (hc : ∀ (j : Nat) s, ss[j]? = some s → w.cell? (ad.add j) = some (.string s)) (hn : n + m ≤ 100000) (hm0 : 0 < m) (ty : TypeId) :
    ∃ v' w', (Builtin.append_ #[33, 33] ty #[v, .slice (some ad) m c]).run Tryd.prog w = .ok v' w' ∧ w'.ownsRow b 9 1 v' (n + m) (xs ++ Fk.strs ss) ∧ ∀ N, (n = 0 ∨ N ≤ n) → RK b N w w' := by
  obtain ⟨i0, hi, he⟩ := Option.map_eq_some_iff.1 info_str
  have hz0 : i0.zero = some (.string ⟨#[]⟩) := congrArg Prod.fst he
  have hz1 : i0.size = 1 := congrArg (fun x => x.2.1) he
  have hz2 : i0.bytes = 16 := congrArg (fun x => x.2.2) he
  have hl : (Fk.strs ss).length = m * 1 := by rw [strs_len, hm, Nat.mul_one]
  have hnews : ∀ j u, (Fk.strs ss)[j]? = some u → w.cell? (ad.add j) = some u := fun j u hj => by
    rw [strs_get] at hj
    cases hs : ss[j]? with
    | none => rw [hs] at hj; cases hj
    | some s => rw [hs] at hj; cases hj; exact hc j s hs
  have h1 : ∀ u ∈ Fk.strs ss, u.oneCell' = true := fun u hu => by
    obtain ⟨s, _, rfl⟩ := List.mem_map.1 hu
    rfl
  have h63 : n + m ≤ maxLen := by unfold maxLen; omega
  have hfr : ∀ w', w.grownBy w' none → ∀ N, RK b N w w' := fun w' a2 N => rk_of_below (Below.grown (Below.refl _ w) a2 (Nat.le_refl _) (fun k h => by cases h)) hb
  rcases hown.2 with ⟨hv, hn0⟩ | ⟨g, cap, cur, hv, hbg, hg, hnc, hcm, hcs, ht⟩
  · subst hv
    subst hn0
    have hx : xs = [] := List.eq_nil_of_length_eq_zero (by simpa using hown.1)
    subst hx
    obtain ⟨v', w', hr, a1, a2, _⟩ := run_append_own (P := Tryd.prog) w b 33 ty 9 i0 _ 1 16 Tryd.underlying33 hi hz0 hz1 hz2 rfl (by decide) (.slice none 0 0) 0 [] (World.ownsRow_nil w _ _ _) ad m c (Fk.strs ss) hl hnews h1 h63 (by omega) hb
    exact ⟨v', w', hr, a1, fun N _ => hfr w' a2 N⟩
  · subst hv
    by_cases hroom : n + m ≤ cap
    · obtain ⟨w', hr, a1, a2⟩ := run_append_fits (P := Tryd.prog) w b 33 ty 9 i0 1 Tryd.underlying33 hi hz1 g n cap xs hown ad m c (Fk.strs ss) hl hnews h1 hroom
      refine ⟨_, w', hr, a1, fun N hN => ⟨(Below.refl b w).grown a2 hb (fun k h => by cases h; exact hbg), fun v0 n0 zs hle hz => ?_⟩⟩
      have hn1 : N ≤ n := by
        rcases hN with e | e
        · obtain ⟨k, hk⟩ := h0 e
          cases hk
          omega
        · exact e
      refine ⟨hz.1, ?_⟩
      rcases hz.2 with hnil | ⟨g0, cap0, cur0, hv0, hb0, hg0, r1, r2, r3, r4⟩
      · exact .inl hnil
      · by_cases hgg : g0 = g
        · subst hgg
          rw [hg] at hg0
          cases hg0
          rcases a1.2 with ⟨h, _⟩ | ⟨g1, cap1, cur1, hv1, hb1, hg1, q1, q2, q3, q4⟩
          · cases h
          · cases hv1
            refine .inr ⟨g0, cap0, cur1, hv0, hb0, hg1, r1, r2, by omega, ?_⟩
            have hxl : (cur.toList.take (n * 1)).length = n := by rw [ht]; simpa using hown.1
            rw [← r4]
            have e1 : cur1.toList.take (n0 * 1) = (cur1.toList.take ((n + m) * 1)).take (n0 * 1) := by rw [List.take_take, Nat.min_eq_left (by omega)]
            rw [e1, q4, ← ht, List.take_append_of_le_length (by rw [hxl]; omega), List.take_take, Nat.min_eq_left (by omega)]
        · refine .inr ⟨g0, cap0, cur0, hv0, hb0, ?_, r1, r2, r3, r4⟩
          rw [a2.block g0 (Array.getElem?_eq_some_iff.1 hg0).1 (fun e => hgg (Option.some.inj e))]
          exact hg0
    · obtain ⟨v', w', hr, a1, a2⟩ := run_append_arg_grows (P := Tryd.prog) w 33 ty 9 i0 _ 1 16 Tryd.underlying33 hi hz0 hz1 hz2 rfl (by decide) ⟨g, 0, none⟩ n cap xs hown.1 (hown.cells (g := g) rfl) ad m c (Fk.strs ss) hl hnews (by omega) h63 (by omega)
      exact ⟨v', w', hr, Fk.own_base a1 hb, fun N _ => hfr w' a2 N⟩
/-- a row of texts is put behind none -/
theorem app_have {b B g : Nat} {w : World} {k : Nat} {hv : Value} {ss : List ByteArray} (hown : w.ownsRow b 9 1 (.slice (some ⟨k, 0, none⟩) 0 0) 0 []) (hb : b ≤ w.heap.size) (hg : Got w g B hv ss) (hn : ss.length ≤ 1000) (ty : TypeId) :
    ∃ v' w', (Builtin.append_ #[33, 33] ty #[.slice (some ⟨k, 0, none⟩) 0 0, hv]).run Tryd.prog w = .ok v' w' ∧ (w'.ownsRow b 9 1 v' ss.length (Fk.strs ss) ∧ (ss.length = 0 → ∃ k, v' = .slice k 0 0)) ∧ ∀ N, RK b N w w' := by
  obtain ⟨h1, h2, h3⟩ := hg
  by_cases h0 : ss = []
  · obtain ⟨i0, hi, he⟩ := Option.map_eq_some_iff.1 info_str
    have hz1 : i0.size = 1 := congrArg (fun x => x.2.1) he
    rw [h2 h0]
    subst h0
    exact ⟨_, w, run_append_nil_run w k ty, ⟨hown, fun _ => ⟨_, rfl⟩⟩, fun N => RK.refl w⟩
  · obtain ⟨a, n, c, rfl, hn2, hc⟩ := rows_own h1 h2
    have hlp := List.length_pos_iff.2 h0
    have e0 : ss[0]? = some ss[0] := List.getElem?_eq_getElem hlp
    obtain ⟨gS, rfl, _⟩ := hc 0 _ e0
    have hc2 : ∀ (j : Nat) s, ss[j]? = some s → w.cell? ((⟨gS, 0, none⟩ : Addr).add j) = some (.string s) := fun j s hj => by
      obtain ⟨gS', e, hcc⟩ := hc j s hj
      cases e
      rw [add_off, Nat.zero_add]
      exact hcc
    obtain ⟨v', w', hr, a1, a2⟩ := app_some hown hb (fun _ => ⟨_, rfl⟩) ⟨gS, 0, none⟩ n c ss hn2 hc2 (by omega) (by omega) ty
    refine ⟨v', w', hr, ⟨?_, fun h => by omega⟩, fun N => a2 N (.inl rfl)⟩
    have e1 : ss.length = 0 + n := by omega
    rw [e1]
    simpa using a1
section
variable {P : List (List Nat) → Prop} {B : Nat} {w w' : World} {g l A K : Nat}
theorem ar_row (h : Ar P B w g l A K) (hk : KeepE g l w w') {q : Nat} {cs : Array Value} {fr : Nat × Nat} (hq : w.heap[q]? = some (.cells cs 9 fr)) (hf : Foe g q w) : w'.heap[q]? = some (.cells cs 9 fr) ∧ Foe g q w' := by
  obtain ⟨s, ag, hd, bs, p, k, h1, _⟩ := h
  have hl := h1.log
  unfold LogAt at hl
  obtain ⟨c1, f1, hd1⟩ := da_type h1.da
  refine hk.2 (fun e => ?_) q cs fr (fun e => ?_) hq hf
  · rw [← e, hd1] at hl
    exact absurd hl (by simp)
  · rw [← e, hq] at hl
    exact absurd hl (by simp)
theorem got_keepA {b : Nat} {v : Value} {ss : List ByteArray} (h : Ar P B w g l A K) (hk : KeepE g l w w') (hg : Got w g b v ss) : Got w' g b v ss := by
  obtain ⟨h1, h2, h3⟩ := hg
  refine ⟨own_same h1 fun q cur hq hc => (ar_row h hk hc (h3 q hq)).1, h2, fun q hq => ?_⟩
  obtain ⟨cur, hc⟩ := own_blk h1 hq
  exact (ar_row h hk hc (h3 q hq)).2
theorem ar_spot (h : Ar P B w g l A K) {X : Nat} {cs : Array Value} {t : TypeId} (ht : ¬ DiskT t) (htl : t ≠ 71) {fr : Nat × Nat} (hX : w.heap[X]? = some (.cells cs t fr)) (hk : KeepE g l w w') : w'.heap[X]? = some (.cells cs t fr) := by
  obtain ⟨s, ag, hd, bs, p, k, h1, _⟩ := h
  refine hk.1 X _ (fun e => ?_) hX fun cs' t' fr' e => by cases e; exact ht
  have hl := h1.log
  unfold LogAt at hl
  rw [← e, hX] at hl
  exact absurd hl (by simp; intro _ h; exact absurd h htl)
theorem ar_below (h : Ar P B w g l A K) (hb : Below w.heap.size w w') : Ar P B w' g l A K := by
  obtain ⟨s, ag, hd, bs, p, k, h1, h2⟩ := h
  exact ⟨s, ag, hd, bs, p, k, h1.below hb, h2⟩
theorem ar_mono {A' K' : Nat} (h : Ar P B w g l A K) (hA : A ≤ A') (hK : K ≤ K') : Ar P B w g l A' K' := by
  obtain ⟨s, ag, hd, bs, p, k, h1, h3, h4, h5⟩ := h
  exact ⟨s, ag, hd, bs, p, k, h1, h3, by omega, by omega⟩
theorem ar_foe (h : Ar P B w g l A K) {q : Nat} (hq : w.heap.size ≤ q) : Foe g q w := by
  obtain ⟨s, ag, hd, bs, p, k, h1, _⟩ := h
  exact da_foe h1.da hq
theorem st_arms (h : St P B w g l A K) (n : Nat) (hn : n ≤ 1000) :
    Calls Tryd.prog 29 #[.pointer (some ⟨g, 0, none⟩), .int .i64 (n : Int)] w fun e w' => e = .returned (.tuple #[]) ∧ Hid (Ar P B w' g l A K) ∧ Hid (Below B w w') ∧ Hid (KeepT g w w') := by
  obtain ⟨s, ag, hd, bs, p, k, h1, h2, h3, h4, h5⟩ := h
  refine (da_arm h1.da n hn).mono ?_
  rintro e w' ⟨rfl, a1, a2, a3⟩
  exact ⟨rfl, Lib.hid ⟨_, ag, hd, bs, p, k, ⟨a1.out, h1.w0, h1.inv, log_keep h1.log a3.out, h1.lb, tab_keep h1.gb h1.tab a2.out, h1.enL, h1.gb⟩, h3, h4, h5⟩, a2, a3⟩
theorem got_nil (w : World) (g b : Nat) : Got w g b (.slice none 0 0) [] := ⟨World.ownsRow_nil w _ _ _, fun _ => rfl, fun q h => by cases h⟩
/-- a new row of texts -/
theorem got_new {b : Nat} {wo : World} {v : Value} {ss : List ByteArray} (h : Ar P B wo g l A K) (hw : Below wo.heap.size wo w) (hB : b ≤ wo.heap.size) (ho : w.ownsRow wo.heap.size 9 1 v ss.length (Fk.strs ss)) (hne : ss ≠ []) : Got w g b v ss := by
  refine ⟨Fk.own_base ho hB, fun e => absurd e hne, fun q hq => ?_⟩
  refine (ar_foe h ?_).below hw
  rcases ho.2 with ⟨h0, _⟩ | ⟨g', cap, cur, hv, hb, _⟩
  · rw [h0] at hq; cases hq
  · rw [hv] at hq; cases hq; exact hb
theorem row8_in {wo w0 W : World} {sp : Option Addr} {b : List Nat} (h : Row8 wo.heap.size wo sp b) (hB : wo.heap.size ≤ B) (hb : Below wo.heap.size wo W) : Row8 B W sp b := fun hp => by
  obtain ⟨g, o, e, hc, hor⟩ := h hp
  have hlt := World.block_lt_of_cell? wo _ (hc 0 hp)
  have hlt2 : g < wo.heap.size := hlt
  exact ⟨g, o, e, fun i hi => (hb.cell (World.block_lt_of_cell? wo _ (hc i hi))).trans (hc i hi), .inr (by omega)⟩
end
end Go.Proofs.YtfhgdcljhncjmaaDoor
