/- A value's bytes, but for its parts'. -/
import Derived.Test.YtpacjcgpeomnaaaDoorValI
import Derived.Lib.AppendZeros
namespace Go.Proofs.YtpacjcgpeomnaaaDoor
open Go.ChangeShapes Go.WideShapes Go.ChangeAt Go.RowKit
open Go.Proofs.YtpacjcgpeomnaaaDoor.Fw (zz vb bytesOf cells)
set_option linter.unusedVariables false
set_option maxRecDepth 20000

theorem own_nil (B : Nat) (w : World) : Fw.Own B (.slice none 0 0) [] w := World.ownsRow_nil _ _ _ _
theorem app_rows {B C : Nat} {w : World} {v v2 : Value} {l l2 : List Nat} (h : Fw.Own B v l w) (h2 : Fw.Own C v2 l2 w) (hB : B ≤ w.heap.size) (hp : 0 < l2.length) (hn : l.length + l2.length ≤ 1000000000) (ty : TypeId) :
    ∃ v' w', (Builtin.append_ #[29, 29] ty #[v, v2]).run Tryd.prog w = .ok v' w' ∧ Fw.Own B v' (l ++ l2) w' ∧ Below B w w' ∧ w.grownBy w' v.ownBlock := by
  obtain ⟨i0, hi, hz0, hz1, hz2⟩ := info_parts Fw.info8
  obtain ⟨a, cap, rfl⟩ := Fw.own_form h2
  obtain ⟨g, rfl, hg0, hg1, hc⟩ := Fw.own_cell h2 hp
  obtain ⟨v', w', hr, a1, a2, _⟩ := run_append_own (P := Tryd.prog) _ B 29 ty 5 i0 _ 1 1 Tryd.underlying29 hi hz0 hz1 hz2 rfl (by decide) v l.length _ h ⟨g, 0, none⟩ l2.length cap (cells l2) (by simp [cells]) (fun j u hj => by
    have hlt : j < l2.length := by have := (List.getElem?_eq_some_iff.1 hj).1; simpa [cells] using this
    have hadd : (⟨g, 0, none⟩ : Addr).add j = ⟨g, j, none⟩ := by unfold Addr.add; split <;> simp_all
    rw [hadd, hc j hlt, ← Fw.cells_get l2 j hlt, hj]) (fun u hu => Fw.cells_one l2 u hu) (by unfold maxLen; omega) (by omega) hB
  refine ⟨v', w', hr, ?_, (Below.refl B _).grown a2 hB fun k hk => Fw.own_ge h hk, a2⟩
  unfold Fw.Own
  rw [List.length_append, show cells (l ++ l2) = cells l ++ cells l2 by simp [cells]]
  exact a1
theorem box4_later {w W : World} {g : Nat} {a b c d : Value} {t : TypeId} (h : w.heap[g]? = some (.cells #[a, b, c, d] t (0, 0))) (hb : Below w.heap.size w W) : W.cell? ⟨g, 0, none⟩ = some a ∧ W.cell? ⟨g, 1, none⟩ = some b ∧ W.cell? ⟨g, 2, none⟩ = some c ∧ W.cell? ⟨g, 3, none⟩ = some d :=
  box4 (by rw [hb.block g (Array.getElem?_eq_some_iff.1 h).1]; exact h)
theorem nat_wd {n : Nat} (h : n ≤ 100000) : Wd (n : Int) := by unfold Wd; omega
/-- the bytes behind the kind's -/
def tailB (k n : Int) (t : ByteArray) (m : Nat) : List Nat :=
  if k = 0 ∨ k = 5 then vb (zz n) else if k = 1 ∨ k = 2 then vb (zz (t.size : Int)) ++ bytesOf t else if k = 3 then vb (zz n) ++ vb (zz (m : Int)) else if k = 4 then vb (zz (m : Int)) else []
theorem front_eq (k n : Int) (t : ByteArray) (a : Option Addr) (cap : Nat) (ks : List V) : front (er (.mk k n t a cap ks)) = vb (zz k) ++ tailB k n t ks.length := by
  rw [er_eq]
  unfold front tailB
  simp only [T.k, T.n, T.t, T.ks, V.k, V.n, V.t, V.ks, List.length_map]
theorem own_up {B C : Nat} {v : Value} {l : List Nat} {w : World} (h : Fw.Own B v l w) (hC : C ≤ B) : Fw.Own C v l w := by
  refine ⟨h.1, ?_⟩
  rcases h.2 with h0 | ⟨g, cap, cur, hv, hb, rest⟩
  · exact .inl h0
  · exact .inr ⟨g, cap, cur, hv, by omega, rest⟩
set_option maxHeartbeats 4000000 in
theorem front_any (v : V) (hv : v.Ok) (ht : v.k = 1 ∨ v.k = 2 → v.t.size ≤ 5000) (hm : v.ks.length ≤ 100000) (w : World) :
    Calls Tryd.prog 29 #[v.val] w fun e w' => ∃ r, e = .returned r ∧ Hid (Fw.Own w.heap.size r (front (er v)) w') ∧ Hid (Below w.heap.size w w') := by
  obtain ⟨k, n, t, a, cap, ks⟩ := v
  have hk : Wd k := hv.1
  have hn : Wd n := hv.2.1
  have hm : ks.length ≤ 100000 := hm
  have ht : k = 1 ∨ k = 2 → t.size ≤ 5000 := ht
  rw [front_eq, V.val_eq]
  obtain ⟨W1, hW1⟩ : ∃ W1, w.alloc (.cells #[.int .i64 k, .int .i64 n, .string t, .slice a ks.length cap] 24) = W1 := ⟨_, rfl⟩
  have hB1 : Below w.heap.size w W1 := by rw [← hW1]; exact (Below.refl _ _).alloc (Nat.le_refl _) _
  have hbox : W1.heap[w.heap.size]? = some (.cells #[.int .i64 k, .int .i64 n, .string t, .slice a ks.length cap] 24 (0, 0)) := by rw [← hW1]; exact World.alloc_heap_new w _
  have HB := Lib.hid (show Below w.heap.size w W1 ∧ W1.heap[w.heap.size]? = some (.cells #[.int .i64 k, .int .i64 n, .string t, .slice a ks.length cap] 24 (0, 0)) from ⟨hB1, hbox⟩)
  obtain ⟨b0, b1, b2, b3⟩ := box4 hbox
  have HK := Lib.hid (Fw.num_any k hk.1 hk.2 W1)
  have HN := Lib.hid (fun W => Fw.num_any n hn.1 hn.2 W)
  have HL := Lib.hid (fun W => Fw.num_any (ks.length : Int) (nat_wd hm).1 (nat_wd hm).2 W)
  have HBd : Hid (∀ x : Int, Wd x → (vb (zz x)).length ≤ 10) := Lib.hid fun x hx => Fw.vb_ten _ (Fw.zz_lt x hx.1 hx.2)
  have HWd := Lib.hid (show Wd k ∧ Wd n ∧ Wd (ks.length : Int) from ⟨hk, hn, nat_wd hm⟩)
  have HT := Lib.hid ht
  clear hB1 hbox hk hn hm ht hv
  go_enter Tryd.func29, Tryd.ntmps29
  go_wp2_with fail
  refine HK.out.mono ?_
  rintro e w2 ⟨r0, rfl, ho0, hb0⟩
  obtain ⟨c0, c1, c2, c3⟩ := box4_later HB.out.2 hb0
  have HO0 : Hid (Fw.Own W1.heap.size r0 (vb (zz k)) w2 ∧ Below W1.heap.size W1 w2 ∧ W1.heap.size ≤ w2.heap.size) := Lib.hid ⟨ho0, hb0, hb0.size⟩
  clear ho0 hb0 b0 b1 b2 b3 HK hW1
  by_cases h0 : k = 0
  · subst h0
    go_wp2_with fail
    refine (HN.out w2).mono ?_
    rintro e w3 ⟨r1, rfl, ho1, hb1⟩
    obtain ⟨v', w4, hrun, ho4, hb4, hg4⟩ := app_rows (Fw.own_later HO0.out.1 hb1) ho1 (Nat.le_trans HO0.out.2.2 hb1.size) (Fw.vb_pos _) (by have h1 := HBd.out 0 HWd.out.1; have h2 := HBd.out n HWd.out.2.1; omega) 29
    have HF : Hid (Fw.Own W1.heap.size v' (vb (zz 0) ++ vb (zz n)) w4 ∧ Below W1.heap.size W1 w4 ∧ W1.heap.size ≤ w4.heap.size ∧ Below w2.heap.size w2 w3) := Lib.hid ⟨ho4, (HO0.out.2.1.trans (hb1.mono HO0.out.2.2)).trans hb4, (((HO0.out.2.1.trans (hb1.mono HO0.out.2.2)).trans hb4)).size, hb1⟩
    clear ho1 hb1 ho4 hb4 hg4
    go_wp2_with (at_builtin; refine Lib.wpList_append_run _ rfl _ _ _ _ rfl _ _ rfl rfl _ _ hrun ?_)
    go_ret
    exact ⟨_, rfl, Lib.hid (own_up HF.out.1 HB.out.1.size), Lib.hid (HB.out.1.trans (HF.out.2.1.mono HB.out.1.size))⟩
  by_cases h5 : k = 5
  · subst h5
    go_wp2_with fail
    refine (HN.out w2).mono ?_
    rintro e w3 ⟨r1, rfl, ho1, hb1⟩
    obtain ⟨v', w4, hrun, ho4, hb4, hg4⟩ := app_rows (Fw.own_later HO0.out.1 hb1) ho1 (Nat.le_trans HO0.out.2.2 hb1.size) (Fw.vb_pos _) (by have h1 := HBd.out 5 HWd.out.1; have h2 := HBd.out n HWd.out.2.1; omega) 29
    have HF : Hid (Fw.Own W1.heap.size v' (vb (zz 5) ++ vb (zz n)) w4 ∧ Below W1.heap.size W1 w4 ∧ W1.heap.size ≤ w4.heap.size ∧ Below w2.heap.size w2 w3) := Lib.hid ⟨ho4, (HO0.out.2.1.trans (hb1.mono HO0.out.2.2)).trans hb4, (((HO0.out.2.1.trans (hb1.mono HO0.out.2.2)).trans hb4)).size, hb1⟩
    clear ho1 hb1 ho4 hb4 hg4
    go_wp2_with (at_builtin; refine Lib.wpList_append_run _ rfl _ _ _ _ rfl _ _ rfl rfl _ _ hrun ?_)
    go_ret
    exact ⟨_, rfl, Lib.hid (own_up HF.out.1 HB.out.1.size), Lib.hid (HB.out.1.trans (HF.out.2.1.mono HB.out.1.size))⟩
  by_cases h1 : k = 1
  · subst h1
    go_wp2_with fail
    refine (Fw.str_any t (HT.out (by decide)) w2).mono ?_
    rintro e w3 ⟨r1, rfl, ho1, hb1⟩
    obtain ⟨v', w4, hrun, ho4, hb4, hg4⟩ := app_rows (Fw.own_later HO0.out.1 hb1) ho1 (Nat.le_trans HO0.out.2.2 hb1.size) (by rw [List.length_append]; have := Fw.vb_pos (zz (t.size : Int)); omega) (by have h1 := HBd.out 1 HWd.out.1; have h2 := HBd.out (t.size : Int) (nat_wd (by have := HT.out (by decide); omega)); have h3 := HT.out (by decide); rw [List.length_append, Fw.bytesOf_len]; omega) 29
    have HF : Hid (Fw.Own W1.heap.size v' (vb (zz 1) ++ (vb (zz (t.size : Int)) ++ bytesOf t)) w4 ∧ Below W1.heap.size W1 w4 ∧ W1.heap.size ≤ w4.heap.size ∧ Below w2.heap.size w2 w3) := Lib.hid ⟨ho4, (HO0.out.2.1.trans (hb1.mono HO0.out.2.2)).trans hb4, (((HO0.out.2.1.trans (hb1.mono HO0.out.2.2)).trans hb4)).size, hb1⟩
    clear ho1 hb1 ho4 hb4 hg4
    go_wp2_with (at_builtin; refine Lib.wpList_append_run _ rfl _ _ _ _ rfl _ _ rfl rfl _ _ hrun ?_)
    go_ret
    exact ⟨_, rfl, Lib.hid (own_up HF.out.1 HB.out.1.size), Lib.hid (HB.out.1.trans (HF.out.2.1.mono HB.out.1.size))⟩
  by_cases h2 : k = 2
  · subst h2
    go_wp2_with fail
    refine (Fw.str_any t (HT.out (by decide)) w2).mono ?_
    rintro e w3 ⟨r1, rfl, ho1, hb1⟩
    obtain ⟨v', w4, hrun, ho4, hb4, hg4⟩ := app_rows (Fw.own_later HO0.out.1 hb1) ho1 (Nat.le_trans HO0.out.2.2 hb1.size) (by rw [List.length_append]; have := Fw.vb_pos (zz (t.size : Int)); omega) (by have h1 := HBd.out 2 HWd.out.1; have h2 := HBd.out (t.size : Int) (nat_wd (by have := HT.out (by decide); omega)); have h3 := HT.out (by decide); rw [List.length_append, Fw.bytesOf_len]; omega) 29
    have HF : Hid (Fw.Own W1.heap.size v' (vb (zz 2) ++ (vb (zz (t.size : Int)) ++ bytesOf t)) w4 ∧ Below W1.heap.size W1 w4 ∧ W1.heap.size ≤ w4.heap.size ∧ Below w2.heap.size w2 w3) := Lib.hid ⟨ho4, (HO0.out.2.1.trans (hb1.mono HO0.out.2.2)).trans hb4, (((HO0.out.2.1.trans (hb1.mono HO0.out.2.2)).trans hb4)).size, hb1⟩
    clear ho1 hb1 ho4 hb4 hg4
    go_wp2_with (at_builtin; refine Lib.wpList_append_run _ rfl _ _ _ _ rfl _ _ rfl rfl _ _ hrun ?_)
    go_ret
    exact ⟨_, rfl, Lib.hid (own_up HF.out.1 HB.out.1.size), Lib.hid (HB.out.1.trans (HF.out.2.1.mono HB.out.1.size))⟩
  by_cases h4 : k = 4
  · subst h4
    go_wp2_with fail
    refine (HL.out w2).mono ?_
    rintro e w3 ⟨r1, rfl, ho1, hb1⟩
    obtain ⟨v', w4, hrun, ho4, hb4, hg4⟩ := app_rows (Fw.own_later HO0.out.1 hb1) ho1 (Nat.le_trans HO0.out.2.2 hb1.size) (Fw.vb_pos _) (by have h1 := HBd.out 4 HWd.out.1; have h2 := HBd.out (ks.length : Int) HWd.out.2.2; omega) 29
    have HF : Hid (Fw.Own W1.heap.size v' (vb (zz 4) ++ vb (zz (ks.length : Int))) w4 ∧ Below W1.heap.size W1 w4 ∧ W1.heap.size ≤ w4.heap.size ∧ Below w2.heap.size w2 w3) := Lib.hid ⟨ho4, (HO0.out.2.1.trans (hb1.mono HO0.out.2.2)).trans hb4, (((HO0.out.2.1.trans (hb1.mono HO0.out.2.2)).trans hb4)).size, hb1⟩
    clear ho1 hb1 ho4 hb4 hg4
    go_wp2_with (at_builtin; refine Lib.wpList_append_run _ rfl _ _ _ _ rfl _ _ rfl rfl _ _ hrun ?_)
    go_ret
    exact ⟨_, rfl, Lib.hid (own_up HF.out.1 HB.out.1.size), Lib.hid (HB.out.1.trans (HF.out.2.1.mono HB.out.1.size))⟩
  by_cases h3 : k = 3
  · subst h3
    go_wp2_with fail
    refine (HN.out w2).mono ?_
    rintro e w3 ⟨r1, rfl, ho1, hb1⟩
    obtain ⟨v', w4, hrun, ho4, hb4, hg4⟩ := app_rows (Fw.own_later HO0.out.1 hb1) ho1 (Nat.le_trans HO0.out.2.2 hb1.size) (Fw.vb_pos _) (by have h1 := HBd.out 3 HWd.out.1; have h2 := HBd.out n HWd.out.2.1; omega) 29
    have HF : Hid (Fw.Own W1.heap.size v' (vb (zz 3) ++ vb (zz n)) w4 ∧ Below W1.heap.size W1 w4 ∧ W1.heap.size ≤ w4.heap.size ∧ Below w2.heap.size w2 w3) := Lib.hid ⟨ho4, (HO0.out.2.1.trans (hb1.mono HO0.out.2.2)).trans hb4, (((HO0.out.2.1.trans (hb1.mono HO0.out.2.2)).trans hb4)).size, hb1⟩
    have c5 := (box4_later HB.out.2 HF.out.2.1).2.2.2
    clear ho1 hb1 ho4 hb4 hg4
    go_wp2_with (at_builtin; refine Lib.wpList_append_run _ rfl _ _ _ _ rfl _ _ rfl rfl _ _ hrun ?_)
    refine (HL.out w4).mono ?_
    rintro e w5 ⟨r2, rfl, ho5, hb5⟩
    obtain ⟨v6, w6, hrun6, ho6, hb6, hg6⟩ := app_rows (Fw.own_later HF.out.1 hb5) ho5 (Nat.le_trans HF.out.2.2.1 hb5.size) (Fw.vb_pos _) (by have h1 := HBd.out 3 HWd.out.1; have h2 := HBd.out n HWd.out.2.1; have h3 := HBd.out (ks.length : Int) HWd.out.2.2; rw [List.length_append]; omega) 29
    have HG : Hid (Fw.Own W1.heap.size v6 (vb (zz 3) ++ vb (zz n) ++ vb (zz (ks.length : Int))) w6 ∧ Below W1.heap.size W1 w6) := Lib.hid ⟨ho6, (HF.out.2.1.trans (hb5.mono HF.out.2.2.1)).trans hb6⟩
    clear ho5 hb5 ho6 hb6 hg6
    go_wp2_with (at_builtin; refine Lib.wpList_append_run _ rfl _ _ _ _ rfl _ _ rfl rfl _ _ hrun6 ?_)
    go_ret
    refine ⟨_, rfl, Lib.hid ?_, Lib.hid (HB.out.1.trans (HG.out.2.mono HB.out.1.size))⟩
    have := own_up HG.out.1 HB.out.1.size
    rw [List.append_assoc] at this
    exact this
  have n0 : (k == 0) = false := by simpa using h0
  have n1 : (k == 1) = false := by simpa using h1
  have n2 : (k == 2) = false := by simpa using h2
  have n3 : (k == 3) = false := by simpa using h3
  have n4 : (k == 4) = false := by simpa using h4
  have n5 : (k == 5) = false := by simpa using h5
  have HE : Hid (tailB k n t ks.length = []) := Lib.hid (by unfold tailB; simp [h0, h1, h2, h3, h4, h5])
  clear h0 h1 h2 h3 h4 h5
  go_wp2_with fail
  go_ret
  exact ⟨_, rfl, Lib.hid (by rw [HE.out, List.append_nil]; exact own_up HO0.out.1 HB.out.1.size), Lib.hid (HB.out.1.trans (HO0.out.2.1.mono HB.out.1.size))⟩
end Go.Proofs.YtpacjcgpeomnaaaDoor
