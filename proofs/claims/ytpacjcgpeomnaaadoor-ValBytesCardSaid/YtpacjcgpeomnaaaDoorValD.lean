/- Check: a value in form, and its bytes' count. -/
import Derived.Test.YtpacjcgpeomnaaaDoorValC
import Derived.Test.YtpacjcgpeomnaaaDoorReg4In
namespace Go.Proofs.YtpacjcgpeomnaaaDoor
open Go.ChangeShapes Go.WideShapes Go.ChangeAt Go.RowKit Go.Shelf
open Go.Proofs.YtpacjcgpeomnaaaDoor.Fw (zz vb bytesOf cells)
set_option linter.unusedVariables false
set_option maxRecDepth 100000
attribute [local go_sem] Oper.semAt_some

theorem al_new (W : World) (o : Obj) (n : Nat) (h : W.heap.size = n) : (W.alloc o).heap[n]? = some o := by subst h; exact World.alloc_heap_new W o
theorem al_old {W : World} {q : Nat} {x : Obj} (o : Obj) (h : W.heap[q]? = some x) : (W.alloc o).heap[q]? = some x := (Below.heap_alloc W o q (Array.getElem?_eq_some_iff.1 h).1).trans h
theorem alloc5 (w : World) (o0 o1 o2 o3 o4 : Obj) : ((((((w.alloc o0).alloc o1).alloc o2).alloc o3).alloc o4).heap.size = w.heap.size + 5) ∧ ((((((w.alloc o0).alloc o1).alloc o2).alloc o3).alloc o4).heap[w.heap.size]? = some o0) ∧ ((((((w.alloc o0).alloc o1).alloc o2).alloc o3).alloc o4).heap[w.heap.size + 1]? = some o1) ∧ ((((((w.alloc o0).alloc o1).alloc o2).alloc o3).alloc o4).heap[w.heap.size + 1 + 1]? = some o2) ∧ ((((((w.alloc o0).alloc o1).alloc o2).alloc o3).alloc o4).heap[w.heap.size + 1 + 1 + 1]? = some o3) ∧ ((((((w.alloc o0).alloc o1).alloc o2).alloc o3).alloc o4).heap[w.heap.size + 1 + 1 + 1 + 1]? = some o4) ∧ Below w.heap.size w (((((w.alloc o0).alloc o1).alloc o2).alloc o3).alloc o4) :=
  ⟨by simp, al_old _ (al_old _ (al_old _ (al_old _ (al_new _ _ _ rfl)))), al_old _ (al_old _ (al_old _ (al_new _ _ _ (by simp)))), al_old _ (al_old _ (al_new _ _ _ (by simp))), al_old _ (al_new _ _ _ (by simp)), al_new _ _ _ (by simp), (((((Below.refl _ w).alloc (Nat.le_refl _) _).alloc (by simp) _).alloc (by simp; omega) _).alloc (by simp; omega) _).alloc (by simp; omega) _⟩
/-- the count, as long as it isn't too great -/
def satN (l : List (Nat × T)) : Nat := l.foldl (fun s x => if s ≤ 16384 then s + (front x.2).length else s) 0
theorem satN_snoc (l : List (Nat × T)) (x : Nat × T) : satN (l ++ [x]) = if satN l ≤ 16384 then satN l + (front x.2).length else satN l := by unfold satN; rw [List.foldl_append]; rfl
theorem form_cases {v : V} (h : formB (er v) = true) : (v.k = 1 → v.t.size = 8) ∧ (v.k = 2 → v.t.size ≤ 4096) ∧ v.ks.length ≤ 8 := by
  obtain ⟨k, n, t, a, cap, ks⟩ := v
  rw [er_eq] at h
  unfold formB at h
  simp only [T.k, T.n, T.t, T.ks, V.k, V.n, V.t, V.ks, isE_iff, List.length_map] at h ⊢
  by_cases h0 : k = 0
  · subst h0
    simp at h
    exact ⟨fun e => by omega, fun e => by omega, by have := h.2; simp [this]⟩
  by_cases h1 : k = 1
  · subst h1
    simp [floB] at h
    exact ⟨fun _ => h.1.2.1, fun e => by omega, by have := h.2; simp [this]⟩
  by_cases h2 : k = 2
  · subst h2
    simp at h
    exact ⟨fun e => by omega, fun _ => of_decide_eq_true h.1.2, by have := h.2; simp [this]⟩
  by_cases h3 : k = 3
  · subst h3
    simp at h
    exact ⟨fun e => by omega, fun e => by omega, h.2⟩
  by_cases h4 : k = 4
  · subst h4
    simp at h
    exact ⟨fun e => by omega, fun e => by omega, h.2⟩
  by_cases h5 : k = 5
  · subst h5
    simp at h
    exact ⟨fun e => by omega, fun e => by omega, by have := h.2; simp [this]⟩
  by_cases h6 : k = 6
  · subst h6
    simp at h
    exact ⟨fun e => by omega, fun e => by omega, by have := h.2; simp [this]⟩
  simp only [h0, h1, h2, h3, h4, h5, h6, if_false] at h
  cases h
theorem form_small {v : V} (h : formB (er v) = true) (hv : v.Ok) : (v.k = 1 ∨ v.k = 2 → v.t.size ≤ 5000) ∧ (front (er v)).length ≤ 5100 := by
  obtain ⟨h1, h2, h3⟩ := form_cases h
  have hs : v.k = 1 ∨ v.k = 2 → v.t.size ≤ 4096 := fun e => e.elim (fun e => by have := h1 e; omega) h2
  refine ⟨fun e => by have := hs e; omega, ?_⟩
  have hb : ∀ x : Int, Wd x → (vb (zz x)).length ≤ 10 := fun x hx => Fw.vb_ten _ (Fw.zz_lt x hx.1 hx.2)
  obtain ⟨k, n, t, a, cap, ks⟩ := v
  have hk := hb k hv.1
  have hn := hb n hv.2.1
  have hl := hb (ks.length : Int) (nat_wd (by have h3 : ks.length ≤ 8 := h3; omega))
  have hs : k = 1 ∨ k = 2 → t.size ≤ 4096 := hs
  rw [front_eq, List.length_append]
  unfold tailB
  split
  · omega
  · split
    · rename_i e
      have := hs e
      have := hb (t.size : Int) (nat_wd (by omega))
      rw [List.length_append, Fw.bytesOf_len]
      omega
    · split
      · rw [List.length_append]; omega
      · split
        · omega
        · simp; omega
theorem form_kids {v : V} (h : formB (er v) = true) : v.ks.length ≤ 100000 := by have := (form_cases h).2.2; omega
def totN (l : List (Nat × T)) : Nat := (l.flatMap fun x => front x.2).length
theorem sat_acc : ∀ (l : List (Nat × T)) (s : Nat), (s ≤ 16384 → (s + totN l ≤ 16384 → l.foldl (fun s x => if s ≤ 16384 then s + (front x.2).length else s) s = s + totN l) ∧ (16384 < s + totN l → 16384 < l.foldl (fun s x => if s ≤ 16384 then s + (front x.2).length else s) s)) ∧ (16384 < s → l.foldl (fun s x => if s ≤ 16384 then s + (front x.2).length else s) s = s)
  | [], s => by
    have e : totN [] = 0 := rfl
    rw [e]
    exact ⟨fun h => ⟨fun _ => rfl, fun h2 => by omega⟩, fun _ => rfl⟩
  | x :: l, s => by
    have e : totN (x :: l) = (front x.2).length + totN l := by unfold totN; rw [List.flatMap_cons, List.length_append]
    rw [e, List.foldl_cons]
    refine ⟨fun h => ?_, fun h => ?_⟩
    · rw [if_pos h]
      obtain ⟨h1, h2⟩ := sat_acc l (s + (front x.2).length)
      by_cases h3 : s + (front x.2).length ≤ 16384
      · obtain ⟨h4, h5⟩ := h1 h3
        exact ⟨fun h6 => by rw [h4 (by omega)]; omega, fun h6 => h5 (by omega)⟩
      · have := h2 (by omega)
        exact ⟨fun h6 => by omega, fun h6 => by rw [this]; omega⟩
    · rw [if_neg (by omega)]
      exact (sat_acc l s).2 h
theorem sat_tot (l : List (Nat × T)) : (16384 < satN l ↔ 16384 < totN l) := by
  obtain ⟨h1, h2⟩ := (sat_acc l 0).1 (by omega)
  unfold satN
  constructor
  · intro h
    rcases Nat.lt_or_ge 16384 (totN l) with h3 | h3
    · exact h3
    · rw [h1 (by omega)] at h; omega
  · intro h; exact h2 (by omega)
theorem keeps_only {B n₀ : Nat} {S : Nat → Prop} {W W' : World} (h : Fw.Only S W W') (hn : n₀ ≤ W.heap.size) (hS : ∀ q, S q → n₀ ≤ q ∧ ∃ cs t fr, W.heap[q]? = some (Obj.cells cs t fr) ∧ t ≠ 24) : KeepsFrom B W W' ∧ KeepV n₀ W W' := by
  refine ⟨⟨h.size, fun k o _ hk ho => ?_⟩, h.below (fun k hk => (hS k hk).1) hn, fun q cs fr hq => ?_⟩
  · rw [h.block k (Array.getElem?_eq_some_iff.1 hk).1 fun hs => ?_]
    · exact hk
    · obtain ⟨_, cs, t, fr, hc, _⟩ := hS k hs
      rw [hk] at hc
      cases hc
      simp [Obj.isCells] at ho
  · rw [h.block q (Array.getElem?_eq_some_iff.1 hq).1 fun hs => ?_]
    · exact hq
    · obtain ⟨_, cs', t, fr', hc, ht⟩ := hS q hs
      rw [hq] at hc
      cases hc
      exact ht rfl
theorem boxed_only {W W' : World} {B : Nat} {t : TypeId} {v : Value} {S : Nat → Prop} (h : Boxed W B t v) (ho : Fw.Only S W W') (hn : ¬ S B) : Boxed W' B t v := by
  unfold Boxed at h ⊢
  rw [ho.block B (Array.getElem?_eq_some_iff.1 h).1 hn]; exact h
theorem x4_only {W W' : World} {B : Nat} {x : Obj} {S : Nat → Prop} (h : W.heap[B]? = some x) (ho : Fw.Only S W W') (hn : ¬ S B) : W'.heap[B]? = some x := by
  rw [ho.block B (Array.getElem?_eq_some_iff.1 h).1 hn]; exact h
theorem x4_below {W W' : World} {B : Nat} {x : Obj} (h : W.heap[B]? = some x) (hb : Below W.heap.size W W') : W'.heap[B]? = some x := by
  rw [hb.block B (Array.getElem?_eq_some_iff.1 h).1]; exact h
theorem boxed_below {W W' : World} {B : Nat} {t : TypeId} {v : Value} (h : Boxed W B t v) (hb : Below W.heap.size W W') : Boxed W' B t v := by
  unfold Boxed at h ⊢
  rw [hb.block B (Array.getElem?_eq_some_iff.1 h).1]; exact h
theorem keeps_below {B : Nat} {W W' : World} (hb : Below W.heap.size W W') : KeepsFrom B W W' := ⟨hb.size, fun k o _ hk _ => by rw [hb.block k (Array.getElem?_eq_some_iff.1 hk).1]; exact hk⟩
theorem body_end {w W w5 : World} {Bp Bs Be n₀ B0 B : Nat} {pl p1 sz ns : Nat} (hp : Boxed W Bp 3 (.int .i64 (pl : Int))) (hs : Boxed W Bs 3 (.int .i64 (sz : Int))) (hbw : Below n₀ w W) (h0 : B0 ≤ W.heap.size) (hn : n₀ ≤ W.heap.size) (ho : Fw.Only (· = Bs) W w5)
    (h5s : Boxed w5 Bs 3 (.int .i64 (ns : Int))) (h5e : Boxed w5 Be 26 (.int .i64 0)) (hle : n₀ ≤ Bp ∧ n₀ ≤ Bs ∧ Bp ≠ Bs ∧ Be ≠ Bp) :
    (KeepsFrom B W (w5.setCell ⟨Bp, 0, none⟩ (.int .i64 (p1 : Int))) ∧ KeepV n₀ W (w5.setCell ⟨Bp, 0, none⟩ (.int .i64 (p1 : Int)))) ∧ Boxed (w5.setCell ⟨Bp, 0, none⟩ (.int .i64 (p1 : Int))) Bp 3 (.int .i64 (p1 : Int)) ∧ Boxed (w5.setCell ⟨Bp, 0, none⟩ (.int .i64 (p1 : Int))) Bs 3 (.int .i64 (ns : Int)) ∧ Boxed (w5.setCell ⟨Bp, 0, none⟩ (.int .i64 (p1 : Int))) Be 26 (.int .i64 0) ∧ Below n₀ w (w5.setCell ⟨Bp, 0, none⟩ (.int .i64 (p1 : Int))) ∧ B0 ≤ (w5.setCell ⟨Bp, 0, none⟩ (.int .i64 (p1 : Int))).heap.size := by
  have hO : Fw.Only (fun q => q = Bs ∨ q = Bp) W (w5.setCell ⟨Bp, 0, none⟩ (.int .i64 (p1 : Int))) := (ho.mono fun q _ h => .inl h).setCell (p := ⟨Bp, 0, none⟩) (.inr rfl) _
  have hk := keeps_only (B := B) (n₀ := n₀) hO hn (fun q hq => by
    rcases hq with rfl | rfl
    · exact ⟨hle.2.1, _, _, _, hs, by decide⟩
    · exact ⟨hle.1, _, _, _, hp, by decide⟩)
  have hp5 := boxed_only hp ho hle.2.2.1
  exact ⟨hk, hp5.set _, h5s.other (Ne.symm hle.2.2.1) _, h5e.other hle.2.2.2 _, hbw.trans hk.2.1, Nat.le_trans h0 hO.size⟩
def OkP (x : Nat × V) : Prop := x.2.Ok ∧ x.1 ≤ 100000
set_option maxHeartbeats 8000000 in
theorem check_any (v : V) (w : World) (hL : Lies (· < w.heap.size) w v) (hc : (er v).cnt ≤ 100000) (hh : (er v).ht ≤ 50000) :
    Calls Tryd.prog 14 #[v.val] w fun e w' => e = .returned (.int .i64 (chk (er v))) ∧ Hid (Below w.heap.size w w') := by
  have HL := Lib.hid hL
  have HC := Lib.hid (fun W => walk_any v W)
  have HCh := Lib.hid (show (er v).cnt ≤ 100000 ∧ (er v).ht ≤ 50000 from ⟨hc, hh⟩)
  clear hL hc hh
  have HV := Lib.hid (fun _ : True => (rfl : v = v))
  obtain ⟨k, n, t, a, cap, ks⟩ := v
  rw [V.val_eq] at HC ⊢
  simp only [V.k, V.n, V.t, V.a, V.cap, V.ks] at HC
  refine (callsIn_wide (n := 3)).1 ?_
  refine callsIn_of_wp_marks Tryd.func14 rfl trivial ?_ rfl
  simp only [Tryd.ntmps14, List.size_toArray, List.length_cons, List.length_nil, Nat.reduceAdd, Nat.reduceSub, Array.replicate_succ, Array.replicate_zero, List.push_toArray, List.append_toArray, List.nil_append, List.cons_append]
  gi_wp2_with (refine ⟨trivial, ?_⟩; gi_at_call 28; refine (callsIn_wide.2 (HC.out _)).mono ?_; rintro e w' ⟨rfl, rfl⟩)
  obtain ⟨z0, z1, z2, z3, z4, z5, z6⟩ := alloc5 w (.cells #[.int .i64 k, .int .i64 n, .string t, .slice a ks.length cap] 24) (.cells #[.int .i64 0] 26) (.cells #[.int .i64 0] 3) (.cells #[.int .i64 0] 3) (.cells #[.int .i64 k, .int .i64 n, .string t, .slice a ks.length cap] 24)
  obtain ⟨W0, hW0⟩ : ∃ W0, (((((w.alloc (.cells #[.int .i64 k, .int .i64 n, .string t, .slice a ks.length cap] 24)).alloc (.cells #[.int .i64 0] 26)).alloc (.cells #[.int .i64 0] 3)).alloc (.cells #[.int .i64 0] 3)).alloc (.cells #[.int .i64 k, .int .i64 n, .string t, .slice a ks.length cap] 24)) = W0 := ⟨_, rfl⟩
  rw [hW0] at z0 z1 z2 z3 z4 z5 z6
  rw [hW0]
  clear hW0 HC
  obtain ⟨Bv, hBv⟩ : ∃ B, w.heap.size = B := ⟨_, rfl⟩
  obtain ⟨Be, hBe⟩ : ∃ B, w.heap.size + 1 = B := ⟨_, rfl⟩
  obtain ⟨Bp, hBp⟩ : ∃ B, w.heap.size + 1 + 1 = B := ⟨_, rfl⟩
  obtain ⟨Bs, hBs⟩ : ∃ B, w.heap.size + 1 + 1 + 1 = B := ⟨_, rfl⟩
  obtain ⟨Bw, hBw⟩ : ∃ B, w.heap.size + 1 + 1 + 1 + 1 = B := ⟨_, rfl⟩
  have HOrd : Hid (Bv = w.heap.size ∧ Be = w.heap.size + 1 ∧ Bp = w.heap.size + 2 ∧ Bs = w.heap.size + 3 ∧ Bw = w.heap.size + 4 ∧ W0.heap.size = w.heap.size + 5) := Lib.hid (by omega)
  rw [hBe] at z2
  rw [hBp] at z3
  rw [hBs] at z4
  rw [hBw] at z5
  rw [hBw, hBs, hBp, hBe]
  have HLW := Lib.hid (HL.out.below z6)
  have HB0 : Hid (Below w.heap.size w W0) := Lib.hid z6
  have hle : w.heap.size ≤ W0.heap.size := by have := HOrd.out; omega
  have HSt := walk_stops Fence.wide rfl 2 trivial trivial rfl Bw w.heap.size (.mk k n t a cap ks) W0 z5 HLW.out hle (by have := HCh.out.2; omega) OkP (fun x hx => by have := V.pre_in HLW.out x hx; have h2 := HCh.out.2; exact ⟨this.2.2, by omega⟩)
  have Z2 := Lib.hid z2
  have Z3 := Lib.hid z3
  have Z4 := Lib.hid z4
  rw [hBv]
  have HBv : Hid (Bv = w.heap.size) := Lib.hid hBv.symm
  clear hBe hBp hBs hBw z0 z1 z2 z3 z4 z5 z6 hBv
  refine wpIn_rangeFunc_ownH rfl (by decide) (gf := 46) (lb := #[.pointer (some ⟨Bw, 0, none⟩)]) rfl trivial (enters_of Tryd.func46 (by kernel_rfl) rfl)
    HSt (KeepV.trans (n₀ := w.heap.size)) (KeepV.putObj hle) (Below.refl _ _) (fun _ => rfl)
    (fun pre W => ((Boxed W Bp 3 (.int .i64 (pre.length : Int)) ∧ Boxed W Bs 3 (.int .i64 (satN ((rawV pre).map erP) : Int))) ∧ Boxed W Be 26 (.int .i64 0)) ∧ (rightB ((rawV pre).map erP) = true ∧ (Below w.heap.size w W ∧ W0.heap.size ≤ W.heap.size)))
    (fun c pre W => (c = .ret ∧ rightB ((rawV pre).map erP) = false) ∧ (Boxed W Be 26 (.int .i64 2) ∧ Below w.heap.size w W))
    ?hI ?hIx ?h0
    (fun x a' W => ∃ Bx, W0.heap.size ≤ Bx ∧ W.heap[Bx]? = some (.cells #[.int .i64 x.1.2.k, .int .i64 x.1.2.n, .string x.1.2.t, .slice x.1.2.a x.1.2.ks.length x.1.2.cap] 24 (0, 0)) ∧ a' = { tmps := List.toArray ((.agg #[.int .i64 k, .int .i64 n, .string t, .slice a ks.length cap]) :: (.pointer (some ⟨Bv, 0, none⟩)) :: (.pointer (some ⟨Be, 0, none⟩)) :: (.pointer (some ⟨Bp, 0, none⟩)) :: (.pointer (some ⟨Bs, 0, none⟩)) :: (.int .i64 (x.1.1 : Int)) :: (.pointer (some ⟨Bx, 0, none⟩)) :: (.agg #[.int .i64 k, .int .i64 n, .string t, .slice a ks.length cap]) :: (.func (.func 46) #[] #[.pointer (some ⟨Bw, 0, none⟩)]) :: (.int .i64 (x.1.1 : Int)) :: x.1.2.val :: undef :: undef :: undef :: undef :: undef :: undef :: undef :: undef :: undef :: undef :: undef :: undef :: undef :: undef :: undef :: undef :: undef :: undef :: undef :: undef :: []), defers := [] })
    ?hAx ?assign ?body ?done ?stop
  case hI =>
    exact OwnFrom.and (OwnFrom.and (OwnFrom.and (Own.from (boxed_own _ _ _) _) (Own.from (boxed_own _ _ _) _)) (Own.from (boxed_own Be 26 (fun _ => .int .i64 0)) _)) (OwnFrom.and (fun _ _ _ _ h _ _ => h) (OwnFrom.and (ownFrom_below (Nat.le_refl _) hle) (fun _ _ _ _ h hg _ => Nat.le_trans h hg.size)))
  case hIx =>
    intro c
    exact OwnFrom.and (fun _ _ _ _ h _ _ => h) (OwnFrom.and (Own.from (boxed_own Be 26 (fun _ => .int .i64 2)) _) (ownFrom_below (Nat.le_refl _) hle))
  case h0 => exact ⟨⟨⟨Z3.out, Z4.out⟩, Z2.out⟩, rfl, HB0.out, Nat.le_refl _⟩
  case hAx =>
    rintro x a' _ X Y row ⟨Bx, h1, h2, h3⟩ hg hr
    refine ⟨Bx, h1, ?_, h3⟩
    rw [hg.block Bx (Array.getElem?_eq_some_iff.1 h2).1 (fun e => ?_)]
    · exact h2
    · obtain ⟨_, o, ho, hn⟩ := hr Bx e.symm
      rw [h2] at ho
      cases ho
      simp [Obj.isCells] at hn
  case assign =>
    rintro l pre x W K ⟨⟨⟨i1, i2⟩, i3⟩, i4, i5, hsz⟩ hK
    have HI := Lib.hid (show Boxed W Bp 3 (.int .i64 (pre.length : Int)) ∧ Boxed W Bs 3 (.int .i64 (satN ((rawV pre).map erP) : Int)) ∧ Boxed W Be 26 (.int .i64 0) from ⟨i1, i2, i3⟩)
    have hnn : w.heap.size ≤ W.heap.size := by omega
    clear i1 i2 i3
    unfold encV V.val
    unfold V.val at hK
    gi_wp2
    have hA : Below W.heap.size W (W.alloc (.cells #[.int .i64 x.1.2.k, .int .i64 x.1.2.n, .string x.1.2.t, .slice x.1.2.a x.1.2.ks.length x.1.2.cap] 24)) := (Below.refl _ _).alloc (Nat.le_refl _) _
    exact hK _ _ ((KeepsOthers.alloc _ _).from _) (KeepV.of_below hA hnn) ⟨⟨⟨HI.out.1.alloc _, HI.out.2.1.alloc _⟩, HI.out.2.2.alloc _⟩, i4, i5.trans (hA.mono hnn), Nat.le_trans hsz hA.size⟩ ⟨W.heap.size, hsz, World.alloc_heap_new W _, rfl⟩
  case body =>
    rintro l pre x a' W hl _ ⟨⟨⟨i1, i2⟩, i3⟩, i4, i5, i6⟩ ⟨Bx, hBx, hx, rfl⟩ hlt
    have hO := openF_round l
    obtain ⟨⟨d, xv⟩, hok, hd⟩ := x
    obtain ⟨pl, hpl⟩ : ∃ m, pre.length = m := ⟨_, rfl⟩
    obtain ⟨sz, hsz⟩ : ∃ m, satN ((rawV pre).map erP) = m := ⟨_, rfl⟩
    have hraw : (rawV (pre ++ [⟨(d, xv), hok, hd⟩])).map erP = (rawV pre).map erP ++ [(d, er xv)] := (congrArg (List.map erP) (rawV_app pre ⟨(d, xv), hok, hd⟩)).trans List.map_append
    have HRaw := Lib.hid (fun _ : True => hraw)
    have HPl : Hid (∀ y : VP OkP, (pre ++ [y]).length = pl + 1) := Lib.hid fun y => by rw [List.length_append, hpl]; rfl
    have HSz := Lib.hid (show satN ((rawV pre).map erP ++ [(d, er xv)]) = if sz ≤ 16384 then sz + (front (er xv)).length else sz by rw [satN_snoc, hsz])
    have HRt := Lib.hid (show rightB ((rawV pre).map erP ++ [(d, er xv)]) = (decide (d ≤ 200) && formB (er xv)) by unfold rightB at i4 ⊢; rw [List.all_append, i4]; simp)
    have hpl2 : pl ≤ 200000 := by have := HCh.out.1; omega
    rw [hpl] at i1
    rw [hsz] at i2
    simp only at hx
    obtain ⟨b0, b1, b2, b3⟩ := box4 hx
    have HI := Lib.hid (show Boxed W Bp 3 (.int .i64 (pl : Int)) ∧ Boxed W Bs 3 (.int .i64 (sz : Int)) ∧ Boxed W Be 26 (.int .i64 0) ∧ Below w.heap.size w W ∧ W0.heap.size ≤ W.heap.size from ⟨i1, i2, i3, i5, i6⟩)
    have HIF := Lib.hid (fun W => isInForm_any xv hok W)
    unfold V.val at HIF
    have HX := Lib.hid hx
    have fe := i3.frozen
    have ce := i3.cell
    have hdI2 : (d : Int) ≤ 100000 := by omega
    clear i1 i2 i3 i4 i5 i6 hx hraw hpl hsz hlt HSt
    unfold V.val
    by_cases hd2 : 200 < d
    · have hdI : (200 : Int) < (d : Int) := by omega
      have HR2 : Hid (decide (d ≤ 200) = false) := Lib.hid (by simp; omega)
      gi_wp2
      refine ⟨trivial, ?_⟩
      gi_wp2
      exact ⟨(KeepsOthers.setCell _ _ _).from _, ⟨rfl, (congrArg rightB (HRaw.out trivial)).trans (HRt.out.trans (by rw [HR2.out]; rfl))⟩, HI.out.2.2.1.set _, HI.out.2.2.2.1.setCell (p := ⟨Be, 0, none⟩) (show w.heap.size ≤ Be by have := HOrd.out; omega) _⟩
    · have hdI : ¬ ((200 : Int) < (d : Int)) := by omega
      have hD2 : decide (d ≤ 200) = true := by simp; omega
      cases hfm : formB (er xv) with
      | false =>
        have HR2 : Hid ((decide (d ≤ 200) && formB (er xv)) = false) := Lib.hid (by rw [hfm, Bool.and_false])
        rw [hfm] at HIF
        clear hfm hD2
        gi_wp2_with (refine ⟨trivial, ?_⟩; gi_at_call 30; refine (CallsIn.inRound l (callsIn_wide.2 (HIF.out _))).mono ?_; rintro e w2 ⟨rfl, hb2⟩; have he2 := boxed_below HI.out.2.2.1 hb2; have ce2 := he2.cell; have fe2 := he2.frozen)
        exact ⟨(keeps_below hb2).trans ((KeepsOthers.setCell _ _ _).from _), ⟨rfl, (congrArg rightB (HRaw.out trivial)).trans (HRt.out.trans HR2.out)⟩, he2.set _, (HI.out.2.2.2.1.trans (hb2.mono HI.out.2.2.2.1.size)).setCell (p := ⟨Be, 0, none⟩) (show w.heap.size ≤ Be by have := HOrd.out; omega) _⟩
      | true =>
        have HR2 : Hid ((decide (d ≤ 200) && formB (er xv)) = true) := Lib.hid (by rw [hfm, hD2]; rfl)
        obtain ⟨hf1, hf2⟩ := form_small hfm hok
        have hf3 := form_kids hfm
        obtain ⟨fl, hfl⟩ : ∃ m, (front (er xv)).length = m := ⟨_, rfl⟩
        have HF : Hid (∀ W, Calls Tryd.prog 29 #[xv.val] W fun e w' => ∃ ar cr, e = .returned (.slice ar fl cr) ∧ Below W.heap.size W w') := Lib.hid fun W => (front_any xv hok hf1 hf3 W).mono fun e w' ⟨r, he, ho, hb⟩ => by
          obtain ⟨ar, cr, hr⟩ := Fw.own_form ho.out
          rw [hfl] at hr
          exact ⟨ar, cr, by rw [he, hr], hb.out⟩
        unfold V.val at HF
        have HFl := Lib.hid (fun _ : True => hfl)
        rw [hfl] at hf2
        rw [hfm] at HIF
        obtain ⟨p1, hp1⟩ : ∃ p1, pl + 1 = p1 := ⟨_, rfl⟩
        have hpw : IntKind.i64.wrap ((pl : Int) + 1) = (p1 : Int) := by rw [IntKind.wrap_i64]; omega
        have hpI : ¬ ((2147483647 : Int) < (p1 : Int)) := by omega
        have HP1 := Lib.hid (fun _ : True => hp1)
        clear hp1
        clear hfm hD2 hf1 hf3 hfl
        by_cases hsz : sz ≤ 16384
        · have hszI : (sz : Int) ≤ 16384 := by omega
          have HSz2 : Hid (satN ((rawV pre).map erP ++ [(d, er xv)]) = sz + fl) := Lib.hid (by rw [HSz.out, if_pos hsz, HFl.out trivial])
          have hsw : IntKind.i64.wrap ((sz : Int) + (fl : Int)) = ((sz + fl : Nat) : Int) := by rw [IntKind.wrap_i64]; omega
          clear HSz hsz
          gi_wp2_with (refine ⟨trivial, ?_⟩; gi_at_call 30; refine (CallsIn.inRound l (callsIn_wide.2 (HIF.out _))).mono ?_; rintro e w2 ⟨rfl, hb2⟩; have hs2 := boxed_below HI.out.2.1 hb2; have cs2 := hs2.cell; have fs2 := hs2.frozen; obtain ⟨d0, d1, d2, d3⟩ := box4_later HX.out hb2)
          have HP2 := Lib.hid (boxed_below HI.out.1 hb2)
          have HE2 := Lib.hid (boxed_below HI.out.2.2.1 hb2)
          have HS2 := Lib.hid hs2
          have HXo := Lib.hid (fun W' (h : Fw.Only (· = Bs) w2 W') => box4 (x4_only (x4_below HX.out hb2) h (by have := HOrd.out; omega)))
          have HB2 := Lib.hid hb2
          clear hs2 cs2 fs2 d0 d1 d2 d3 hb2 HIF b0 b1 b2 b3 fe ce
          let U : Nat → World → Prop := fun jX W => match jX with | 0 => Boxed W Bs 3 (.int .i64 (sz : Int)) | 1 => True | 2 => True | 3 => True | 4 => True | 5 => Boxed W Bs 3 (.int .i64 (sz : Int)) | _ => True
          let R : Nat → World → World → Prop := fun jX W W2 => match jX with | 0 => W = W2 | 1 => W = W2 | 2 => Below W.heap.size W W2 | 3 => W = W2 | 4 => W = W2 | 5 => W2 = W.setCell ⟨Bs, 0, none⟩ (.int .i64 ((sz + fl : Nat) : Int)) | _ => W = W2
          let V : Nat → Value → World → Prop := fun jX v W => match jX with | 0 => v = .int .i64 (sz : Int) | 1 => v = .agg #[.int .i64 xv.k, .int .i64 xv.n, .string xv.t, .slice xv.a xv.ks.length xv.cap] | 2 => ∃ ar cr, v = .slice ar fl cr ∧ True | 3 => v = .int .i64 (fl : Int) | 4 => v = .int .i64 ((sz + fl : Nat) : Int) | 5 => v = undef ∧ Boxed W Bs 3 (.int .i64 ((sz + fl : Nat) : Int)) | _ => True
          refine wpIn_region_fill4 (by kernel_rfl) U V (fun W => Fw.Only (· = Bs) w2 W) R (by kernel_rfl) (by kernel_rfl) ((Fw.Only.refl _ _).drew) ?_ ?_ ?_ ?_ ?_ ?_
          · intro jX
            match jX with
            | 0 => exact HS2.out
            | 1 => exact trivial
            | 2 => exact trivial
            | 3 => exact trivial
            | 4 => exact trivial
            | 5 => exact HS2.out
            | nX + 6 => exact trivial
          · intro iX W W2 hr hi
            match iX, hr with
            | 0, hr => exact (show W = W2 from hr) ▸ hi
            | 1, hr => exact (show W = W2 from hr) ▸ hi
            | 2, hr => exact hi.trans (Fw.Only.of_below hr)
            | 3, hr => exact (show W = W2 from hr) ▸ hi
            | 4, hr => exact (show W = W2 from hr) ▸ hi
            | 5, hr => exact (show W2 = _ from hr) ▸ Fw.only_set hi 0 _
            | nX + 6, hr => exact (show W = W2 from hr) ▸ hi
          · intro iX jX W W2 hij hord hi hui hr h
            match iX, hij, hord, hui, hr with
            | 0, hij, hord, hui, hr => exact (show W = W2 from hr) ▸ h
            | 1, hij, hord, hui, hr => exact (show W = W2 from hr) ▸ h
            | 2, hij, hord, hui, hr =>
              match jX, hij, hord, h with
              | 0, hij, hord, h => exact boxed_below h hr
              | 1, hij, hord, h => exact h
              | 2, hij, hord, h => exact absurd rfl hij
              | 3, hij, hord, h => exact h
              | 4, hij, hord, h => exact h
              | 5, hij, hord, h => exact boxed_below h hr
              | nX + 6, hij, hord, h => exact h
            | 3, hij, hord, hui, hr => exact (show W = W2 from hr) ▸ h
            | 4, hij, hord, hui, hr => exact (show W = W2 from hr) ▸ h
            | 5, hij, hord, hui, hr =>
              match jX, hij, hord, h with
              | 0, hij, hord, h => exact anc_no hord (by kernel_rfl)
              | 1, hij, hord, h => exact h
              | 2, hij, hord, h => exact h
              | 3, hij, hord, h => exact h
              | 4, hij, hord, h => exact h
              | 5, hij, hord, h => exact absurd rfl hij
              | nX + 6, hij, hord, h => exact h
            | nX + 6, hij, hord, hui, hr => exact (show W = W2 from hr) ▸ h
          · intro iX jX v W W2 hij hord hi hui hr h
            match iX, hij, hord, hui, hr with
            | 0, hij, hord, hui, hr => exact (show W = W2 from hr) ▸ h
            | 1, hij, hord, hui, hr => exact (show W = W2 from hr) ▸ h
            | 2, hij, hord, hui, hr =>
              match jX, hij, hord, h with
              | 0, hij, hord, h => exact h
              | 1, hij, hord, h => exact h
              | 2, hij, hord, h => exact absurd rfl hij
              | 3, hij, hord, h => exact h
              | 4, hij, hord, h => exact h
              | 5, hij, hord, h => exact anc_no hord (by kernel_rfl)
              | nX + 6, hij, hord, h => exact h
            | 3, hij, hord, hui, hr => exact (show W = W2 from hr) ▸ h
            | 4, hij, hord, hui, hr => exact (show W = W2 from hr) ▸ h
            | 5, hij, hord, hui, hr =>
              match jX, hij, hord, h with
              | 0, hij, hord, h => exact h
              | 1, hij, hord, h => exact h
              | 2, hij, hord, h => exact h
              | 3, hij, hord, h => exact h
              | 4, hij, hord, h => exact h
              | 5, hij, hord, h => exact absurd rfl hij
              | nX + 6, hij, hord, h => exact h
            | nX + 6, hij, hord, hui, hr => exact (show W = W2 from hr) ▸ h
          · intro iX o ho a W hN hi hui h
            match iX, ho, hui with
            | 0, ho, hui =>
              obtain rfl := Option.some.inj (show some _ = some o from ho)
              have e4 : a.eval (.tmp 4) = .pointer (some ⟨Bs, 0, none⟩) := hN.eval 4 (by kernel_rfl)
              have hc := (show Boxed W Bs 3 (.int .i64 (sz : Int)) from hui).cell
              refine fillIn_value (v := .int .i64 (sz : Int)) hO (by rfl) ho rfl (by rfl) (by clear h hN; have hcst : ∀ v, a.eval (.const v) = v := (fun _ => rfl); have hfun : ∀ f, a.eval (.func f) = .func (.func f) #[] #[] := (fun _ => rfl); generalize a.eval = ρ at *; go_simp) rfl (show W = W from rfl)
            | 1, ho, hui =>
              obtain rfl := Option.some.inj (show some _ = some o from ho)
              have e6 : a.eval (.tmp 6) = .pointer (some ⟨Bx, 0, none⟩) := hN.eval 6 (by kernel_rfl)
              obtain ⟨q0, q1, q2, q3⟩ := HXo.out W hi
              refine fillIn_value (v := .agg #[.int .i64 xv.k, .int .i64 xv.n, .string xv.t, .slice xv.a xv.ks.length xv.cap]) hO (by rfl) ho rfl (by rfl) (by clear h hN; have hcst : ∀ v, a.eval (.const v) = v := (fun _ => rfl); have hfun : ∀ f, a.eval (.func f) = .func (.func f) #[] #[] := (fun _ => rfl); generalize a.eval = ρ at *; go_simp) rfl (show W = W from rfl)
            | 2, ho, hui =>
              obtain rfl := Option.some.inj (show some _ = some o from ho)
              have e21 : a.eval (.tmp 21) = .agg #[.int .i64 xv.k, .int .i64 xv.n, .string xv.t, .slice xv.a xv.ks.length xv.cap] := h ⟨1, .data⟩ (by simp) rfl
              refine fillIn_enter (f := 29) (args := #[.agg #[.int .i64 xv.k, .int .i64 xv.n, .string xv.t, .slice xv.a xv.ks.length xv.cap]]) hO (by rfl) ho rfl (by rfl) (by clear h hN; have hcst : ∀ v, a.eval (.const v) = v := (fun _ => rfl); have hfun : ∀ f, a.eval (.func f) = .func (.func f) #[] #[] := (fun _ => rfl); generalize a.eval = ρ at *; go_simp) (HF.out W) ?_
              rintro e w2 ⟨ar, cr, rfl, hb3⟩
              exact ⟨_, rfl, ⟨ar, cr, rfl, trivial⟩, hb3⟩
            | 3, ho, hui =>
              obtain rfl := Option.some.inj (show some _ = some o from ho)
              obtain ⟨ar, cr, e22, p22⟩ : ∃ ar cr, a.eval (.tmp 22) = .slice ar fl cr ∧ True := h ⟨2, .data⟩ (by simp) rfl
              refine fillIn_value (v := .int .i64 (fl : Int)) hO (by rfl) ho rfl (by rfl) (by clear h hN; have hcst : ∀ v, a.eval (.const v) = v := (fun _ => rfl); have hfun : ∀ f, a.eval (.func f) = .func (.func f) #[] #[] := (fun _ => rfl); generalize a.eval = ρ at *; go_simp) rfl (show W = W from rfl)
            | 4, ho, hui =>
              obtain rfl := Option.some.inj (show some _ = some o from ho)
              have e20 : a.eval (.tmp 20) = .int .i64 (sz : Int) := h ⟨0, .data⟩ (by simp) rfl
              have e23 : a.eval (.tmp 23) = .int .i64 (fl : Int) := h ⟨3, .data⟩ (by simp) rfl
              refine fillIn_value (v := .int .i64 ((sz + fl : Nat) : Int)) hO (by rfl) ho rfl (by rfl) (by clear h hN; have hcst : ∀ v, a.eval (.const v) = v := (fun _ => rfl); have hfun : ∀ f, a.eval (.func f) = .func (.func f) #[] #[] := (fun _ => rfl); generalize a.eval = ρ at *; go_simp) rfl (show W = W from rfl)
            | 5, ho, hui =>
              obtain rfl := Option.some.inj (show some _ = some o from ho)
              have e4 : a.eval (.tmp 4) = .pointer (some ⟨Bs, 0, none⟩) := hN.eval 4 (by kernel_rfl)
              have e24 : a.eval (.tmp 24) = .int .i64 ((sz + fl : Nat) : Int) := h ⟨4, .data⟩ (by simp) rfl
              have hc := (show Boxed W Bs 3 (.int .i64 (sz : Int)) from hui).cell
              have hfr := (show Boxed W Bs 3 (.int .i64 (sz : Int)) from hui).frozen
              refine fillIn_done (w' := W.setCell ⟨Bs, 0, none⟩ (.int .i64 ((sz + fl : Nat) : Int))) hO (by rfl) ho rfl (by rfl) (by clear h hN; have hcst : ∀ v, a.eval (.const v) = v := (fun _ => rfl); have hfun : ∀ f, a.eval (.func f) = .func (.func f) #[] #[] := (fun _ => rfl); generalize a.eval = ρ at *; go_simp) ⟨rfl, (show Boxed W Bs 3 (.int .i64 (sz : Int)) from hui).set _⟩ (rfl)
            | nX + 6, ho, hui => exact absurd ho (by simp)
          · intro vals W hi h
            have u0 : vals 0 = .int .i64 (sz : Int) := h 0 (by decide)
            have u1 : vals 1 = .agg #[.int .i64 xv.k, .int .i64 xv.n, .string xv.t, .slice xv.a xv.ks.length xv.cap] := h 1 (by decide)
            obtain ⟨ar, cr, u2, p2⟩ : ∃ ar cr, vals 2 = .slice ar fl cr ∧ True := h 2 (by decide)
            have u3 : vals 3 = .int .i64 (fl : Int) := h 3 (by decide)
            have u4 : vals 4 = .int .i64 ((sz + fl : Nat) : Int) := h 4 (by decide)
            obtain ⟨u5, p5⟩ : vals 5 = undef ∧ Boxed W Bs 3 (.int .i64 ((sz + fl : Nat) : Int)) := h 5 (by decide)
            generalize hA : fill _ _ _ _ = A
            have hA2 : (Act.put (Act.put (Act.put (Act.put (Act.put (Act.put (_ : Act) (some 20) (vals 0)) (some 21) (vals 1)) (some 22) (vals 2)) (some 23) (vals 3)) (some 24) (vals 4)) none (vals 5)) = A := hA
            clear hA h V R U
            rw [u0, u1, u2, u3, u4, u5] at hA2
            simp only [fill, Act.put, List.setIfInBounds_toArray, List.set_cons_succ, List.set_cons_zero] at hA2
            subst hA2
            clear u0 u1 u2 u3 u4 u5
            have HZ := Lib.hid p5
            have HIo := Lib.hid hi
            clear p5 hi
            obtain ⟨w5, hw5⟩ : ∃ V2, V2 = W := ⟨_, rfl⟩
            subst hw5
            have hp5 := boxed_only HP2.out HIo.out (by have := HOrd.out; omega)
            have cp5 := hp5.cell
            have fp5 := hp5.frozen
            gi_wp2
            have he5 := boxed_only HE2.out HIo.out (by have := HOrd.out; omega)
            obtain ⟨⟨k1, k2⟩, k3, k4, k5, k6, k7⟩ := body_end (B := W0.heap.size) (p1 := p1) HI.out.1 HI.out.2.1 HI.out.2.2.2.1 HI.out.2.2.2.2 (Nat.le_trans hle HI.out.2.2.2.2) ((Fw.Only.of_below HB2.out).trans HIo.out) HZ.out he5 (by have := HOrd.out; omega)
            refine ⟨k1, k2, ⟨⟨?_, ?_⟩, k5⟩, ?_, k6, k7⟩
            · have e1 : (pre ++ ([⟨(d, xv), hok, hd⟩] : List (VP OkP))).length = p1 := (HPl.out _).trans (HP1.out trivial)
              exact e1.symm ▸ k3
            · have e1 := (congrArg satN (HRaw.out trivial)).trans HSz2.out
              exact e1.symm ▸ k4
            · exact (congrArg rightB (HRaw.out trivial)).trans (HRt.out.trans HR2.out)
        · have hszI : ¬ ((sz : Int) ≤ 16384) := by omega
          have HSz2 : Hid (satN ((rawV pre).map erP ++ [(d, er xv)]) = sz) := Lib.hid (by rw [HSz.out, if_neg hsz])
          clear HSz hsz
          gi_wp2_with (refine ⟨trivial, ?_⟩; gi_at_call 30; refine (CallsIn.inRound l (callsIn_wide.2 (HIF.out _))).mono ?_; rintro e w2 ⟨rfl, hb2⟩; have hs2 := boxed_below HI.out.2.1 hb2; have cs2 := hs2.cell; have fs2 := hs2.frozen; have hp2 := boxed_below HI.out.1 hb2; have cp2 := hp2.cell; have fp2 := hp2.frozen)
          have he5 := boxed_below HI.out.2.2.1 hb2
          obtain ⟨⟨k1, k2⟩, k3, k4, k5, k6, k7⟩ := body_end (B := W0.heap.size) (p1 := p1) HI.out.1 HI.out.2.1 HI.out.2.2.2.1 HI.out.2.2.2.2 (Nat.le_trans hle HI.out.2.2.2.2) (Fw.Only.of_below hb2) hs2 he5 (by have := HOrd.out; omega)
          refine ⟨k1, k2, ⟨⟨?_, ?_⟩, k5⟩, ?_, k6, k7⟩
          · have e1 : (pre ++ ([⟨(d, xv), hok, hd⟩] : List (VP OkP))).length = p1 := (HPl.out _).trans (HP1.out trivial)
            exact e1.symm ▸ k3
          · have e1 := (congrArg satN (HRaw.out trivial)).trans HSz2.out
            exact e1.symm ▸ k4
          · exact (congrArg rightB (HRaw.out trivial)).trans (HRt.out.trans HR2.out)
  case done =>
    rintro D ys W hD hys ⟨⟨⟨i1, i2⟩, i3⟩, i4, i5, i6⟩ hK
    have hmap : (rawV ys).map erP = (er (.mk k n t a cap ks)).pre 1 := by rw [hys, V.pre_er]
    rw [hmap] at i2 i4
    have HChk : Hid (chk (er (.mk k n t a cap ks)) = if 16384 < satN ((er (.mk k n t a cap ks)).pre 1) then 4 else 0) := Lib.hid (by
      unfold chk
      rw [i4, if_neg (by decide)]
      show (if 16384 < totN ((er (.mk k n t a cap ks)).pre 1) then (4 : Int) else 0) = _
      by_cases h : 16384 < satN ((er (.mk k n t a cap ks)).pre 1)
      · rw [if_pos h, if_pos ((sat_tot _).1 h)]
      · rw [if_neg h, if_neg fun h2 => h ((sat_tot _).2 h2)])
    obtain ⟨sz, hsz⟩ : ∃ m, satN ((er (.mk k n t a cap ks)).pre 1) = m := ⟨_, rfl⟩
    rw [hsz] at i2 HChk
    have HI := Lib.hid (show Boxed W Be 26 (.int .i64 0) ∧ Below w.heap.size w W from ⟨i3, i5⟩)
    have ce := i3.cell
    have fe := i3.frozen
    have cs := i2.cell
    have HD := Lib.hid hD
    clear i1 i2 i3 i4 i5 i6 hsz hmap hys HSt hD
    have fin : ∀ e : Int, ∃ v, (W.setCell ⟨Be, 0, none⟩ (.int .i64 e)).heap[D]? = some (.deferred (some [])) ∧ ((W.setCell ⟨Be, 0, none⟩ (.int .i64 e)).putObj D (.deferred none)).cell? ⟨Be, 0, none⟩ = some (.int .i64 e) ∧ Below w.heap.size w ((W.setCell ⟨Be, 0, none⟩ (.int .i64 e)).putObj D (.deferred none)) ∧ v = e := fun e => by
      have hK' := (KeepsOthers.setCell W ⟨Be, 0, none⟩ (.int .i64 e)).same D _ hK rfl
      have hb : Below w.heap.size w (W.setCell ⟨Be, 0, none⟩ (.int .i64 e)) := HI.out.2.setCell (p := ⟨Be, 0, none⟩) (show w.heap.size ≤ Be by have := HOrd.out; omega) _
      exact ⟨e, hK', cell_kept (HI.out.1.set (.int .i64 e)).cell (grownBy_putObj' _ D (.deferred none)) (fun r e => by cases e; exact ⟨_, hK', rfl⟩), hb.grown (grownBy_putObj' _ D (.deferred none)) hb.size (fun r e => by cases e; have := HD.out; have := HOrd.out; omega), rfl⟩
    have Fin := Lib.hid fin
    clear fin
    by_cases hbig : 16384 < sz
    · have hbI : (16384 : Int) < (sz : Int) := by omega
      rw [if_pos hbig] at HChk
      clear hbig
      gi_wp2
      obtain ⟨_, f1, f2, f3, _⟩ := Fin.out 4
      refine ⟨by simp, .inl ⟨_, _, rfl, run_takeDeferred f1, ?_⟩⟩
      refine ⟨.int .i64 4, ?_, by rw [HChk.out], Lib.hid f3⟩
      simp [results, Tryd.f14, go_sem, f2]
    · have hbI : ¬ ((16384 : Int) < (sz : Int)) := by omega
      rw [if_neg hbig] at HChk
      clear hbig
      gi_wp2
      obtain ⟨_, f1, f2, f3, _⟩ := Fin.out 0
      refine ⟨by simp, .inl ⟨_, _, rfl, run_takeDeferred f1, ?_⟩⟩
      refine ⟨.int .i64 0, ?_, by rw [HChk.out], Lib.hid f3⟩
      simp [results, Tryd.f14, go_sem, f2]
  case stop =>
    rintro D c pre W hD hpre ⟨⟨rfl, i1⟩, i2, i3⟩ hK
    have HChk : Hid (chk (er (.mk k n t a cap ks)) = 2) := Lib.hid (by
      unfold chk
      rw [if_pos]
      obtain ⟨r, hr⟩ := hpre
      rw [← V.pre_er, ← hr, List.map_append]
      unfold rightB at i1 ⊢
      rw [List.all_append, i1]; rfl)
    have HI := Lib.hid (show Boxed W Be 26 (.int .i64 2) ∧ Below w.heap.size w W from ⟨i2, i3⟩)
    have HD := Lib.hid hD
    clear i1 i2 i3 hpre HSt hD
    gi_wp2
    refine ⟨by simp, .inl ⟨_, _, rfl, run_takeDeferred hK, ?_⟩⟩
    have hc5 := cell_kept HI.out.1.cell (grownBy_putObj' W D (.deferred none)) (fun r e => by cases e; exact ⟨_, hK, rfl⟩)
    refine ⟨.int .i64 2, ?_, by rw [HChk.out], Lib.hid (HI.out.2.grown (grownBy_putObj' W D (.deferred none)) HI.out.2.size (fun r e => by cases e; have := HD.out; have := HOrd.out; omega))⟩
    simp [results, Tryd.f14, go_sem, hc5]
end Go.Proofs.YtpacjcgpeomnaaaDoor
