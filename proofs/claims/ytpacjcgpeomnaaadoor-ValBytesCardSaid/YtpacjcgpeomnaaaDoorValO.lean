/- Tame trees stay as they are; the law's own tame. -/
import Derived.Test.YtpacjcgpeomnaaaDoorValN
namespace Go.Proofs.YtpacjcgpeomnaaaDoor
open Go.ChangeShapes Go.WideShapes Go.ChangeAt Go.RowKit
set_option linter.unusedVariables false
set_option maxRecDepth 20000

/-- few kids, short texts, all the way down -/
inductive Sm : T → Prop where
  | mk {k n : Int} {t : ByteArray} {ks : List T} : t.size ≤ 5000 → ks.length ≤ 12 → (∀ x ∈ ks, Sm x) → Sm (.mk k n t ks)
theorem cnt_pos (v : T) : 1 ≤ v.cnt := by rw [T.cnt_eq]; omega
theorem ht_pos (v : T) : 1 ≤ v.ht := by rw [T.ht_eq]; omega
theorem tamL_sm : ∀ (ks : List T), (∀ v ∈ ks, ∀ d l, Sm (tamT v d l).1) → ∀ d l i, i ≤ 12 → (tamL ks d l i).1.length + i ≤ 12 ∧ ∀ x ∈ (tamL ks d l i).1, Sm x
  | [], _, d, l, i, hi => by
    rw [tamL_nil]
    exact ⟨by simpa using hi, fun x hx => by cases hx⟩
  | v :: vs, h, d, l, i, hi => by
    by_cases hc : 1 < d ∧ 0 < l ∧ i < 12
    · obtain ⟨h1, h2⟩ := tamL_sm vs (fun x hx => h x (List.mem_cons_of_mem _ hx)) d (tamT v (d - 1) l).2 (i + 1) (by omega)
      rw [tamL_cons, if_pos hc]
      refine ⟨by show (_ :: _).length + i ≤ 12; rw [List.length_cons]; omega, fun x hx => ?_⟩
      rcases List.mem_cons.1 hx with rfl | hx
      · exact h v (by simp) _ _
      · exact h2 x hx
    · rw [tamL_stop _ _ _ _ hc]
      exact ⟨by simpa using hi, fun x hx => by cases hx⟩
theorem tamT_sm (v : T) : ∀ d l, Sm (tamT v d l).1 := by
  induction v using T.ind with
  | h k n t ks ih =>
    intro d l
    obtain ⟨h1, h2⟩ := tamL_sm ks ih d (l - 1) 0 (by omega)
    rw [tamT_eq]
    exact Sm.mk (by rw [ByteArray.size_extract]; omega) (by omega) h2
theorem tamL_id : ∀ (ks : List T), (∀ v ∈ ks, ∀ d l, v.cnt ≤ l → v.ht ≤ d → tamT v d l = (v, l - v.cnt)) → ∀ d l i, T.cnts ks ≤ l → T.hts ks + 1 ≤ d → i + ks.length ≤ 12 → tamL ks d l i = (ks, l - T.cnts ks)
  | [], _, d, l, i, _, _, _ => by rw [tamL_nil, cnts_nil', Nat.sub_zero]
  | v :: vs, h, d, l, i, h1, h2, h3 => by
    rw [cnts_cons'] at h1
    rw [hts_cons] at h2
    rw [List.length_cons] at h3
    have hp := cnt_pos v
    have hq := ht_pos v
    have e1 := h v (by simp) (d - 1) l (by omega) (by omega)
    have e2 := tamL_id vs (fun x hx => h x (List.mem_cons_of_mem _ hx)) d (l - v.cnt) (i + 1) (by omega) (by omega) (by omega)
    rw [tamL_cons, if_pos (by omega), e1]
    show (v :: (tamL vs d (l - v.cnt) (i + 1)).1, (tamL vs d (l - v.cnt) (i + 1)).2) = _
    rw [e2, cnts_cons']
    show (v :: vs, l - v.cnt - T.cnts vs) = _
    rw [Nat.sub_sub]
theorem tamT_id (v : T) : Sm v → ∀ d l, v.cnt ≤ l → v.ht ≤ d → tamT v d l = (v, l - v.cnt) := by
  induction v using T.ind with
  | h k n t ks ih =>
    intro hs d l h1 h2
    obtain ⟨s1, s2, s3⟩ : t.size ≤ 5000 ∧ ks.length ≤ 12 ∧ ∀ x ∈ ks, Sm x := by cases hs with | mk a b c => exact ⟨a, b, c⟩
    rw [T.cnt_eq] at h1 ⊢
    rw [T.ht_eq] at h2
    have h1 : 1 + T.cnts ks ≤ l := h1
    have h2 : 1 + T.hts ks ≤ d := h2
    have e := tamL_id ks (fun v hv d l => ih v hv (s3 v hv) d l) d (l - 1) 0 (by omega) (by omega) (by omega)
    rw [tamT_eq, e]
    have et : t.extract 0 (min t.size 5000) = t := by rw [Nat.min_eq_left s1, ByteArray.extract_zero_size]
    show (T.mk k n (t.extract 0 (min t.size 5000)) ks, l - 1 - T.cnts ks) = (T.mk k n t ks, l - (1 + T.cnts ks))
    rw [et, Nat.sub_sub]
/-- a value that was tamed -/
noncomputable def tm (v : T) : T := (tamT v 210 300).1
theorem tm_size (v : T) : (tm v).cnt ≤ 300 ∧ (tm v).ht ≤ 210 := by
  obtain ⟨h1, h2⟩ := tamT_le v 210 300 (by omega)
  unfold tm
  exact ⟨by omega, h2 (by omega)⟩
theorem tm_tm (v : T) : tm (tm v) = tm v := by
  obtain ⟨h1, h2⟩ := tm_size v
  have := tamT_id (tm v) (tamT_sm v 210 300) 210 300 h1 h2
  show (tamT (tm v) 210 300).1 = tm v
  rw [this]
set_option maxHeartbeats 4000000 in
theorem tame_any (v : V) (W : World) (hL : Lies (· < W.heap.size) W v) :
    Calls Tryd.prog 10 #[v.val] W fun e w' => ∃ y : V, e = .returned (.agg #[.int .i64 y.k, .int .i64 y.n, .string y.t, .slice y.a y.ks.length y.cap]) ∧ Hid (er y = tm (er v) ∧ Lies (fun q => W.heap.size ≤ q ∧ q < w'.heap.size) w' y) ∧ Hid (Below W.heap.size W w') := by
  obtain ⟨W0, hW0⟩ : ∃ W1, W.alloc (.cells #[.int .i64 v.k, .int .i64 v.n, .string v.t, .slice v.a v.ks.length v.cap] 24) = W1 := ⟨_, rfl⟩
  have hB0 : Below W.heap.size W W0 := by rw [← hW0]; exact (Below.refl _ _).alloc (Nat.le_refl _) _
  have hbox0 : W0.heap[W.heap.size]? = some (.cells #[.int .i64 v.k, .int .i64 v.n, .string v.t, .slice v.a v.ks.length v.cap] 24 (0, 0)) := by rw [← hW0]; exact World.alloc_heap_new W _
  obtain ⟨W1, hW1⟩ : ∃ W1, W0.alloc (.cells #[.int .i64 0, .int .i64 0, .string ⟨#[]⟩, .slice none 0 0] 24) = W1 := ⟨_, rfl⟩
  have hB1 : Below W0.heap.size W0 W1 := by rw [← hW1]; exact (Below.refl _ _).alloc (Nat.le_refl _) _
  have hbox1 : W1.heap[W0.heap.size]? = some (.cells #[.int .i64 0, .int .i64 0, .string ⟨#[]⟩, .slice none 0 0] 24 (0, 0)) := by rw [← hW1]; exact World.alloc_heap_new W0 _
  have hbox2 : W1.heap[W.heap.size]? = some (.cells #[.int .i64 v.k, .int .i64 v.n, .string v.t, .slice v.a v.ks.length v.cap] 24 (0, 0)) := by rw [hB1.block _ (Array.getElem?_eq_some_iff.1 hbox0).1]; exact hbox0
  obtain ⟨b0, b1, b2, b3⟩ := box4 hbox2
  have HB1 := Lib.hid (show Below W.heap.size W W1 from hB0.trans (hB1.mono hB0.size))
  have hC := refTame_any W.heap.size v 210 300 W1 (hL.below HB1.out) HB1.out.size (by omega) (by omega) (by omega)
  unfold V.val at hC ⊢
  have hC : Calls Tryd.prog 25 #[.agg #[.int .i64 v.k, .int .i64 v.n, .string v.t, .slice v.a v.ks.length v.cap], .int .i64 210, .int .i64 300] W1 _ := hC
  have HC := Lib.hid hC
  obtain ⟨Bb, hBb⟩ : ∃ x, W0.heap.size = x := ⟨_, rfl⟩
  have HSz : Hid (W.heap.size ≤ Bb ∧ Bb < W1.heap.size ∧ W1.heap[Bb]? = some (.cells #[.int .i64 0, .int .i64 0, .string ⟨#[]⟩, .slice none 0 0] 24 (0, 0))) := Lib.hid (by rw [← hBb]; exact ⟨hB0.size, (Array.getElem?_eq_some_iff.1 hbox1).1, hbox1⟩)
  clear hB0 hbox0 hB1 hbox1 hbox2 hC hL
  go_enter Tryd.func10, Tryd.ntmps10
  go_wp2_with fail
  refine HC.out.mono ?_
  rintro e w5 ⟨y, rfl, hy, hb5⟩
  go_upto_region 2 with fail
  have hbx : (w5.alloc (.cells #[.int .i64 y.k, .int .i64 y.n, .string y.t, .slice y.a y.ks.length y.cap] 24)).heap[w5.heap.size]? = some (.cells #[.int .i64 y.k, .int .i64 y.n, .string y.t, .slice y.a y.ks.length y.cap] 24 (0, 0)) := World.alloc_heap_new w5 _
  have hb6 : Below w5.heap.size w5 (w5.alloc (.cells #[.int .i64 y.k, .int .i64 y.n, .string y.t, .slice y.a y.ks.length y.cap] 24)) := (Below.refl _ _).alloc (Nat.le_refl _) _
  generalize w5.alloc (.cells #[.int .i64 y.k, .int .i64 y.n, .string y.t, .slice y.a y.ks.length y.cap] 24) = W6 at *
  obtain ⟨q0, q1, q2, q3⟩ := box4 hbx
  have hB16 : Below W1.heap.size W1 W6 := hb5.out.trans (hb6.mono hb5.out.size)
  have hbb : W6.heap[Bb]? = some (.cells #[.int .i64 0, .int .i64 0, .string ⟨#[]⟩, .slice none 0 0] 24 (0, 0)) := by rw [hB16.block Bb HSz.out.2.1]; exact HSz.out.2.2
  obtain ⟨e0, e1, e2, e3⟩ := box4 hbb
  obtain ⟨f0, f1, f2, f3⟩ := kept4 hbb
  go_wp2_with fail
  generalize hW10 : World.setCell _ ⟨Bb, 3, none⟩ _ = w10
  have hb10 : w10.heap[Bb]? = some (.cells #[.int .i64 y.k, .int .i64 y.n, .string y.t, .slice y.a y.ks.length y.cap] 24 (0, 0)) := by rw [← hW10]; exact set4 hbb _ _ _ _
  have hn10 : ∀ q, q ≠ Bb → w10.heap[q]? = W6.heap[q]? := fun q hq => by rw [← hW10]; exact set4_ne hq _ _ _ _
  have hB10 : Below W.heap.size W w10 := by rw [← hW10]; exact set4_below (HB1.out.trans (hB16.mono HB1.out.size)) HSz.out.1 _ _ _ _
  have hz10 : w10.heap.size = W6.heap.size := by rw [← hW10]; simp [World.setCell]
  obtain ⟨c0, c1, c2, c3⟩ := box4 hb10
  (try simp only [Exit.inBlock, Exit.then])
  refine bodyPost_ret (v := .agg #[.int .i64 y.k, .int .i64 y.n, .string y.t, .slice y.a y.ks.length y.cap]) (by simp [results, Tryd.f10, go_sem, c0, c1, c2, c3]) rfl ?_
  refine ⟨y, rfl, Lib.hid ⟨hy.out.1, hy.out.2.same (fun q hq => ?_) (fun q hq => ?_)⟩, Lib.hid hB10⟩
  · have := HSz.out.2.1
    rw [hn10 q (by omega), hb6.block q hq.2]
  · have := HSz.out
    have := hb6.size
    exact ⟨by omega, by omega⟩
end Go.Proofs.YtpacjcgpeomnaaaDoor
