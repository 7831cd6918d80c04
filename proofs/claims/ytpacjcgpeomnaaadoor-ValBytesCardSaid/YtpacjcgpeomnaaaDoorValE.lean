/- Encode: a value's bytes. -/
import Derived.Test.YtpacjcgpeomnaaaDoorValD
namespace Go.Proofs.YtpacjcgpeomnaaaDoor
open Go.ChangeShapes Go.WideShapes Go.ChangeAt Go.RowKit Go.Shelf
open Go.Proofs.YtpacjcgpeomnaaaDoor.Fw (zz vb bytesOf cells)
set_option linter.unusedVariables false
set_option maxRecDepth 100000
attribute [local go_sem] Oper.semAt_some

def FrP (x : Nat × V) : Prop := x.2.Ok ∧ formB (er x.2) = true
def frs (l : List (VP FrP)) : List Nat := ((rawV l).map erP).flatMap fun x => front x.2
theorem frs_app (a : List (VP FrP)) (x : VP FrP) : frs (a ++ [x]) = frs a ++ front (er x.1.2) := by
  unfold frs
  rw [rawV_app, List.map_append, List.flatMap_append]
  simp [erP]
theorem frs_len : ∀ a : List (VP FrP), (frs a).length ≤ a.length * 5100
  | [] => by simp [frs, rawV]
  | x :: a => by
    have h := frs_len a
    have e : frs (x :: a) = front (er x.1.2) ++ frs a := by simp [frs, rawV, erP]
    have h2 := (form_small x.2.2 x.2.1).2
    rw [e, List.length_append, List.length_cons]
    omega
theorem own_same {w w' : World} {b : Nat} {e : TypeId} {z : Nat} {v : Value} {n : Nat} {xs : List Value} (h : w.ownsRow b e z v n xs) (hs : ∀ k, v.ownBlock = some k → w'.heap[k]? = w.heap[k]?) : w'.ownsRow b e z v n xs := by
  refine ⟨h.1, ?_⟩
  rcases h.2 with h' | ⟨g, cap, cur, rfl, hb, hg, r⟩
  · exact .inl h'
  · exact .inr ⟨g, cap, cur, rfl, hb, (hs g rfl).trans hg, r⟩
theorem own_blk {w : World} {b : Nat} {e : TypeId} {z : Nat} {v : Value} {n : Nat} {xs : List Value} {q : Nat} (h : w.ownsRow b e z v n xs) (hq : v.ownBlock = some q) : b ≤ q ∧ ∃ cur, w.heap[q]? = some (.cells cur e (0, 0)) := by
  rcases h.2 with ⟨h0, _⟩ | ⟨g', cap, cur, hv, hb, hg, _⟩
  · rw [h0] at hq; cases hq
  · rw [hv] at hq; cases hq; exact ⟨hb, cur, hg⟩
theorem ownV_lt {w : World} {b : Nat} {e : TypeId} {z : Nat} {v : Value} {n : Nat} {xs : List Value} {q : Nat} (h : w.ownsRow b e z v n xs) (hq : v.ownBlock = some q) : q < w.heap.size := by
  obtain ⟨_, cur, hc⟩ := own_blk h hq
  exact (Array.getElem?_eq_some_iff.1 hc).1
theorem own_set {w : World} {b B : Nat} {e : TypeId} {z : Nat} {v : Value} {n : Nat} {xs : List Value} (h : w.ownsRow b e z v n xs) (hne : some B ≠ v.ownBlock) (u : Value) : (w.setCell ⟨B, 0, none⟩ u).ownsRow b e z v n xs :=
  own_same h fun k hk => by
    unfold World.setCell
    simp only
    rw [Array.getElem?_modify, if_neg (fun e => hne (by rw [hk, ← e]))]
theorem own_grown2 {w w' : World} {b n₀ : Nat} {e : TypeId} {z : Nat} {v : Value} {n : Nat} {xs : List Value} (h : w.ownsRow b e z v n xs) {row : Option Nat} (hg : w.grownBy w' row) (hlt : ∀ k, row = some k → k < n₀) (hb : n₀ ≤ b) : w'.ownsRow b e z v n xs :=
  own_same h fun k hk => hg.block k (ownV_lt h hk) fun e2 => by
    have := (own_blk h hk).1
    have := hlt k e2.symm
    omega
/-- what was lies, but for a variable and its row -/
def EnK (w2 : World) (Bb : Nat) (bv : Value) (W : World) : Prop := Fw.Only (fun q => q = Bb ∨ bv.ownBlock = some q) w2 W
theorem EnK.refl (w : World) (Bb : Nat) (bv : Value) : EnK w Bb bv w.drew := (Fw.Only.refl _ _).drew
theorem EnK.below {w2 W W2 : World} {Bb : Nat} {bv : Value} (h : EnK w2 Bb bv W) (hb : Below W.heap.size W W2) : EnK w2 Bb bv W2 := Fw.Only.trans h (Fw.Only.of_below hb)
theorem EnK.grown {w2 W W2 : World} {Bb : Nat} {bv : Value} (h : EnK w2 Bb bv W) (hg : W.grownBy W2 bv.ownBlock) : EnK w2 Bb bv W2 :=
  Fw.Only.trans h ⟨hg.os, hg.tape, hg.output, hg.size, fun k hk hn => hg.block k hk fun e => hn (.inr e.symm)⟩
theorem EnK.set {w2 W : World} {Bb : Nat} {bv : Value} (h : EnK w2 Bb bv W) (u : Value) : EnK w2 Bb bv (W.setCell ⟨Bb, 0, none⟩ u) := Fw.Only.setCell h (p := ⟨Bb, 0, none⟩) (.inl rfl) u
theorem own_only {w w' : World} {S : Nat → Prop} {b : Nat} {e : TypeId} {z : Nat} {v : Value} {n : Nat} {xs : List Value} (h : w.ownsRow b e z v n xs) (ho : Fw.Only S w w') (hs : ∀ k, v.ownBlock = some k → ¬ S k) : w'.ownsRow b e z v n xs :=
  own_same h fun k hk => ho.block k (ownV_lt h hk) (hs k hk)
theorem chk_form {v : V} (h : chk (er v) = 0) : ∀ x ∈ v.pre 1, formB (er x.2) = true := fun x hx => by
  unfold chk at h
  by_cases hr : rightB ((er v).pre 1) = false
  · rw [if_pos hr] at h; cases h
  · have hr : rightB ((er v).pre 1) = true := by simpa using hr
    rw [← V.pre_er] at hr
    unfold rightB at hr
    have := List.all_eq_true.1 hr (erP x) (List.mem_map_of_mem hx)
    rw [Bool.and_eq_true] at this
    exact this.2
set_option maxHeartbeats 8000000 in
theorem encode_any (v : V) (w : World) (hL : Lies (· < w.heap.size) w v) (hc : (er v).cnt ≤ 100000) (hh : (er v).ht ≤ 50000) :
    Calls Tryd.prog 12 #[v.val] w fun e w' => ((chk (er v) = 0 ∧ ∃ r, e = .returned (.tuple #[r, .int .i64 0]) ∧ Hid (Fw.Own w.heap.size r (bytesT (er v)) w')) ∨ (chk (er v) ≠ 0 ∧ e = .returned (.tuple #[.slice none 0 0, .int .i64 (chk (er v))]))) ∧ Hid (Below w.heap.size w w') := by
  have HL := Lib.hid hL
  have HC := Lib.hid (fun W => walk_any v W)
  have HCh := Lib.hid (show (er v).cnt ≤ 100000 ∧ (er v).ht ≤ 50000 from ⟨hc, hh⟩)
  obtain ⟨k, n, t, a, cap, ks⟩ := v
  obtain ⟨W1, hW1⟩ : ∃ W1, w.alloc (.cells #[.int .i64 k, .int .i64 n, .string t, .slice a ks.length cap] 24) = W1 := ⟨_, rfl⟩
  have hB1 : Below w.heap.size w W1 := by rw [← hW1]; exact (Below.refl _ _).alloc (Nat.le_refl _) _
  have hbox : W1.heap[w.heap.size]? = some (.cells #[.int .i64 k, .int .i64 n, .string t, .slice a ks.length cap] 24 (0, 0)) := by rw [← hW1]; exact World.alloc_heap_new w _
  have HB1 := Lib.hid hB1
  have HBox := Lib.hid hbox
  obtain ⟨b0, b1, b2, b3⟩ := box4 hbox
  have HK := Lib.hid (check_any (.mk k n t a cap ks) W1 ((hL.below hB1).mono fun q h => Nat.lt_of_lt_of_le h hB1.size) hc hh)
  rw [V.val_eq] at HC HK ⊢
  simp only [V.k, V.n, V.t, V.a, V.cap, V.ks] at HC
  obtain ⟨ce, hce⟩ : ∃ c, chk (er (.mk k n t a cap ks)) = c := ⟨_, rfl⟩
  rw [hce] at HK ⊢
  have HCe := Lib.hid (fun _ : True => hce)
  clear hL hc hh hB1 hbox hce
  refine (callsIn_wide (n := 3)).1 ?_
  refine callsIn_of_wp_marks Tryd.func12 rfl trivial ?_ rfl
  simp only [Tryd.ntmps12, List.size_toArray, List.length_cons, List.length_nil, Nat.reduceAdd, Nat.reduceSub, Array.replicate_succ, Array.replicate_zero, List.push_toArray, List.append_toArray, List.nil_append, List.cons_append]
  by_cases h0 : ce = 0
  · subst h0
    gi_wp2_with (first
      | (refine ⟨trivial, ?_⟩; gi_at_call 14; refine (callsIn_wide.2 HK.out).mono ?_; rintro e w2 ⟨rfl, hb2⟩; obtain ⟨d0, d1, d2, d3⟩ := box4_later (W := w2.alloc (.cells #[.slice none 0 0] 29)) HBox.out (hb2.out.trans (((Below.refl _ _).alloc (Nat.le_refl _) _).mono hb2.out.size)))
      | (refine ⟨trivial, ?_⟩; gi_at_call 28; refine (callsIn_wide.2 (HC.out _)).mono ?_; rintro e w' ⟨rfl, rfl⟩))
    have HB2 := Lib.hid (HB1.out.trans (hb2.out.mono HB1.out.size))
    obtain ⟨W0, hW0⟩ : ∃ W0, (w2.alloc (.cells #[.slice none 0 0] 29)).alloc (.cells #[.int .i64 k, .int .i64 n, .string t, .slice a ks.length cap] 24) = W0 := ⟨_, rfl⟩
    have z1 : W0.heap[w2.heap.size]? = some (.cells #[.slice none 0 0] 29 (0, 0)) := by rw [← hW0]; exact al_old _ (al_new _ _ _ rfl)
    have z2 : W0.heap[w2.heap.size + 1]? = some (.cells #[.int .i64 k, .int .i64 n, .string t, .slice a ks.length cap] 24 (0, 0)) := by rw [← hW0]; exact al_new _ _ _ (by simp)
    have z3 : Below w2.heap.size w2 W0 := by rw [← hW0]; exact ((Below.refl _ _).alloc (Nat.le_refl _) _).alloc (by simp) _
    have z4 : W0.heap.size = w2.heap.size + 2 := by rw [← hW0]; simp
    rw [hW0]
    clear hW0 d0 d1 d2 d3 HK HC hb2 b0 b1 b2 b3 hW1
    obtain ⟨Bv, hBv⟩ : ∃ B, w.heap.size = B := ⟨_, rfl⟩
    obtain ⟨Bb, hBb⟩ : ∃ B, w2.heap.size = B := ⟨_, rfl⟩
    obtain ⟨Bw, hBw⟩ : ∃ B, w2.heap.size + 1 = B := ⟨_, rfl⟩
    have hsz := HB2.out.size
    have HOrd : Hid (Bv = w.heap.size ∧ w.heap.size ≤ Bb ∧ Bb = w2.heap.size ∧ Bw = w2.heap.size + 1 ∧ W0.heap.size = w2.heap.size + 2) := Lib.hid (by omega)
    have HB0 : Hid (Below w.heap.size w W0) := Lib.hid (HB2.out.trans (z3.mono hsz))
    rw [hBb] at z1
    rw [hBw] at z2
    rw [hBw, hBb]
    have hle : w.heap.size ≤ W0.heap.size := HB0.out.size
    have HLW := Lib.hid (HL.out.below HB0.out)
    have HSt := walk_stops Fence.wide rfl 2 trivial trivial rfl Bw w.heap.size (.mk k n t a cap ks) W0 z2 HLW.out hle (by have := HCh.out.2; omega) FrP (fun x hx => by
      have h1 := (V.pre_in HLW.out x hx).2.2
      have h2 := chk_form (HCe.out trivial) x hx
      exact ⟨h1, h2⟩)
    have Z1 := Lib.hid z1
    rw [hBv]
    have HBv : Hid (Bv = w.heap.size) := Lib.hid hBv.symm
    clear hBb hBw z1 z2 z3 z4 hBv hsz
    refine wpIn_rangeFunc_ownH rfl (by decide) (gf := 46) (lb := #[.pointer (some ⟨Bw, 0, none⟩)]) rfl trivial (enters_of Tryd.func46 (by kernel_rfl) rfl)
      HSt (KeepV.trans (n₀ := w.heap.size)) (KeepV.putObj hle) (Below.refl _ _) (fun _ => rfl)
      (fun pre W => (∃ bv, Boxed W Bb 29 bv ∧ Fw.Own W0.heap.size bv (frs pre) W) ∧ (Below w.heap.size w W ∧ W0.heap.size ≤ W.heap.size))
      (fun _ _ _ => False)
      ?hI (fun _ _ _ _ _ hs _ _ => hs) ?h0
      (fun x a' W => ∃ Bx, W0.heap.size ≤ Bx ∧ W.heap[Bx]? = some (.cells #[.int .i64 x.1.2.k, .int .i64 x.1.2.n, .string x.1.2.t, .slice x.1.2.a x.1.2.ks.length x.1.2.cap] 24 (0, 0)) ∧ a' = { tmps := List.toArray ((.agg #[.int .i64 k, .int .i64 n, .string t, .slice a ks.length cap]) :: (.pointer (some ⟨Bv, 0, none⟩)) :: (.slice none 0 0) :: (.int .i64 0) :: (.int .i64 0) :: (.pointer (some ⟨Bb, 0, none⟩)) :: undef :: (.pointer (some ⟨Bx, 0, none⟩)) :: (.agg #[.int .i64 k, .int .i64 n, .string t, .slice a ks.length cap]) :: (.int .i64 0) :: (.int .i64 0) :: (.bool false) :: undef :: (.agg #[.int .i64 k, .int .i64 n, .string t, .slice a ks.length cap]) :: (.func (.func 46) #[] #[.pointer (some ⟨Bw, 0, none⟩)]) :: (.int .i64 (x.1.1 : Int)) :: x.1.2.val :: undef :: undef :: undef :: undef :: undef :: []), defers := [] })
      ?hAx ?assign ?body ?done ?stop
    case hI =>
      refine OwnFrom.and ?_ (OwnFrom.and (ownFrom_below (Nat.le_refl _) hle) (fun _ _ _ _ h hg _ => Nat.le_trans h hg.size))
      rintro pre A C row ⟨bv, h1, h2⟩ hg hr
      have hrow : ∀ q cs t fr, A.heap[q]? = some (.cells cs t fr) → some q ≠ row := fun q cs t fr hq e => by
        obtain ⟨_, o, ho, hn⟩ := hr q e.symm
        rw [hq] at ho
        cases ho
        simp [Obj.isCells] at hn
      exact ⟨bv, h1.kept hg (hrow _ _ _ _ h1), own_same h2 fun k hk => by
        obtain ⟨_, cur, hc⟩ := own_blk h2 hk
        exact hg.block k (Array.getElem?_eq_some_iff.1 hc).1 (hrow _ _ _ _ hc)⟩
    case h0 => exact ⟨⟨_, Z1.out, own_nil _ _⟩, HB0.out, Nat.le_refl _⟩
    case hAx =>
      rintro x a' _ X Y row ⟨Bx, h1, h2, h3⟩ hg hr
      refine ⟨Bx, h1, ?_, h3⟩
      rw [hg.block Bx (Array.getElem?_eq_some_iff.1 h2).1 (fun e => ?_)]
      · exact h2
      · obtain ⟨_, o, ho, hn⟩ := hr Bx e.symm
        rw [h2] at ho
        cases ho
        simp [Obj.isCells] at hn
    case assign =>
      rintro l pre x W K ⟨⟨bv, i1, i2⟩, i5, hsz⟩ hK
      have HI := Lib.hid (show Boxed W Bb 29 bv ∧ Fw.Own W0.heap.size bv (frs pre) W from ⟨i1, i2⟩)
      have hnn : w.heap.size ≤ W.heap.size := by omega
      clear i1 i2
      unfold encV V.val
      unfold V.val at hK
      gi_wp2
      have hA : Below W.heap.size W (W.alloc (.cells #[.int .i64 x.1.2.k, .int .i64 x.1.2.n, .string x.1.2.t, .slice x.1.2.a x.1.2.ks.length x.1.2.cap] 24)) := (Below.refl _ _).alloc (Nat.le_refl _) _
      exact hK _ _ ((KeepsOthers.alloc _ _).from _) (KeepV.of_below hA hnn) ⟨⟨bv, HI.out.1.alloc _, Fw.own_later HI.out.2 hA⟩, i5.trans (hA.mono hnn), Nat.le_trans hsz hA.size⟩ ⟨W.heap.size, hsz, World.alloc_heap_new W _, rfl⟩
    case body =>
      rintro l pre x a' w2 hl _ ⟨⟨bv, i1, i2⟩, i5, i6⟩ ⟨Bx, hBx, hx, rfl⟩ hlt
      have hO := openF_round l
      obtain ⟨⟨d, xv⟩, hok, hfm⟩ := x
      have hL1 : frs (pre ++ ([⟨(d, xv), hok, hfm⟩] : List (VP FrP))) = frs pre ++ front (er xv) := frs_app _ _
      have HLs := Lib.hid (fun _ : True => hL1)
      have hlen := frs_len pre
      have hcn := HCh.out.1
      obtain ⟨hf1, hf2⟩ := form_small hfm hok
      have hf2 : (front (er xv)).length ≤ 5100 := hf2
      have HF := Lib.hid (fun W => (front_any xv hok hf1 (form_kids hfm) W).mono (R' := fun e w' => ∃ ar cr, e = .returned (.slice ar (front (er xv)).length cr) ∧ Fw.Own W.heap.size (.slice ar (front (er xv)).length cr) (front (er xv)) w' ∧ Below W.heap.size W w') fun e w' ⟨r, he, ho, hb⟩ => by
        obtain ⟨ar, cr, hr⟩ := Fw.own_form ho.out
        exact ⟨ar, cr, by rw [he, hr], by rw [← hr]; exact ho.out, hb.out⟩)
      unfold V.val at HF
      have HPos : Hid (0 < (front (er xv)).length) := Lib.hid (by
        obtain ⟨k2, n2, t2, a2, c2, l2⟩ := xv
        rw [front_eq, List.length_append]
        have := Fw.vb_pos (zz k2)
        omega)
      have HLen : Hid ((frs pre).length + (front (er xv)).length ≤ 1000000000) := Lib.hid (by omega)
      obtain ⟨L, hL⟩ : ∃ L, frs pre = L := ⟨_, rfl⟩
      obtain ⟨FR, hFR⟩ : ∃ L, front (er xv) = L := ⟨_, rfl⟩
      rw [hL, hFR] at HLen
      rw [hL] at i2
      rw [hFR] at HF HPos
      have HLs2 : Hid (frs (pre ++ ([⟨(d, xv), hok, hfm⟩] : List (VP FrP))) = L ++ FR) := Lib.hid (by rw [HLs.out trivial, hL, hFR])
      obtain ⟨LF, hLF⟩ : ∃ l, L ++ FR = l := ⟨_, rfl⟩
      rw [hLF] at HLs2
      have HLF := Lib.hid (fun _ : True => hLF)
      clear hLF
      obtain ⟨B0, hB0⟩ : ∃ B, W0.heap.size = B := ⟨_, rfl⟩
      have HOrd2 : Hid (w.heap.size ≤ Bb ∧ Bb < B0 ∧ w.heap.size ≤ B0 ∧ B0 ≤ w2.heap.size ∧ W0.heap.size = B0) := Lib.hid (by have := HOrd.out; omega)
      rw [hB0] at i2 hBx
      have HB0 : Hid (B0 ≤ w2.heap.size) := Lib.hid HOrd2.out.2.2.2.1
      have HBb2 := Lib.hid i1
      have HOw2 := Lib.hid i2
      have HI5 := Lib.hid i5
      have HNe : Hid (some Bb ≠ bv.ownBlock) := Lib.hid (i1.not_row (by decide) i2)
      have HLt : Hid (∀ k, bv.ownBlock = some k → k < w2.heap.size) := Lib.hid fun k hk => ownV_lt i2 hk
      have HNb : Hid (∀ {W : World} {C : Nat} {v : Value} {l : List Nat}, Fw.Own C v l W → w2.heap.size ≤ C → some Bb ≠ v.ownBlock) := Lib.hid fun h hC e => by
        have := (own_blk h e.symm).1
        have := HOrd2.out
        omega
      have HXo := Lib.hid (fun W' (h : w2.heap.size ≤ W'.heap.size ∧ EnK w2 Bb bv W') => box4 (x4_only hx h.2 (fun hh => by
        rcases hh with e | e
        · have := HOrd2.out; omega
        · obtain ⟨_, cur, hc⟩ := own_blk HOw2.out e
          rw [hx] at hc
          cases hc)))
      clear hL1 hlen hcn hf1 hf2 hL hFR HLs i1 i2 i5 i6 hBx hx hlt HSt hB0
      unfold V.val
      gi_wp2
      let U : Nat → World → Prop := fun jX W => match jX with | 0 => Boxed W Bb 29 bv | 1 => True | 2 => True | 3 => Fw.Own B0 bv L W | 4 => Boxed W Bb 29 bv | _ => True
      let R : Nat → World → World → Prop := fun jX W W2 => match jX with | 0 => W = W2 | 1 => W = W2 | 2 => Below W.heap.size W W2 | 3 => W.grownBy W2 bv.ownBlock | 4 => ∃ u, W2 = W.setCell ⟨Bb, 0, none⟩ u | _ => W = W2
      let V : Nat → Value → World → Prop := fun jX v W => match jX with | 0 => v = bv | 1 => v = .agg #[.int .i64 xv.k, .int .i64 xv.n, .string xv.t, .slice xv.a xv.ks.length xv.cap] | 2 => ∃ ar cr C, v = .slice ar FR.length cr ∧ (w2.heap.size ≤ C ∧ Fw.Own C (.slice ar FR.length cr) FR W) | 3 => ∃ a3 c3, v = .slice a3 LF.length c3 ∧ Fw.Own B0 (.slice a3 LF.length c3) LF W | 4 => ∃ v5, v = undef ∧ (Boxed W Bb 29 v5 ∧ Fw.Own B0 v5 LF W) | _ => True
      refine wpIn_region_fill4 (by kernel_rfl) U V (fun W => w2.heap.size ≤ W.heap.size ∧ EnK w2 Bb bv W) R (by kernel_rfl) (by kernel_rfl) (⟨Nat.le_refl _, EnK.refl _ _ _⟩) ?_ ?_ ?_ ?_ ?_ ?_
      · intro jX
        match jX with
        | 0 => exact HBb2.out
        | 1 => exact trivial
        | 2 => exact trivial
        | 3 => exact HOw2.out
        | 4 => exact HBb2.out
        | nX + 5 => exact trivial
      · intro iX W W2 hr hi
        match iX, hr with
        | 0, hr => exact (show W = W2 from hr) ▸ hi
        | 1, hr => exact (show W = W2 from hr) ▸ hi
        | 2, hr => exact ⟨Nat.le_trans hi.1 hr.size, hi.2.below hr⟩
        | 3, hr => exact ⟨Nat.le_trans hi.1 hr.size, hi.2.grown hr⟩
        | 4, hr => exact (by obtain ⟨u, rfl⟩ := hr; exact ⟨by simpa [World.setCell] using hi.1, hi.2.set u⟩)
        | nX + 5, hr => exact (show W = W2 from hr) ▸ hi
      · intro iX jX W W2 hij hord hi hui hr h
        match iX, hij, hord, hui, hr with
        | 0, hij, hord, hui, hr => exact (show W = W2 from hr) ▸ h
        | 1, hij, hord, hui, hr => exact (show W = W2 from hr) ▸ h
        | 2, hij, hord, hui, hr =>
          match jX, hij, hord, h with
          | 0, hij, hord, h => exact boxed_below h hr
          | 1, hij, hord, h => exact h
          | 2, hij, hord, h => exact absurd rfl hij
          | 3, hij, hord, h => exact Fw.own_later h hr
          | 4, hij, hord, h => exact boxed_below h hr
          | nX + 5, hij, hord, h => exact h
        | 3, hij, hord, hui, hr =>
          match jX, hij, hord, h with
          | 0, hij, hord, h => exact h.kept hr (HNe.out)
          | 1, hij, hord, h => exact h
          | 2, hij, hord, h => exact h
          | 3, hij, hord, h => exact absurd rfl hij
          | 4, hij, hord, h => exact h.kept hr (HNe.out)
          | nX + 5, hij, hord, h => exact h
        | 4, hij, hord, hui, hr =>
          match jX, hij, hord, h with
          | 0, hij, hord, h => exact anc_no hord (by kernel_rfl)
          | 1, hij, hord, h => exact h
          | 2, hij, hord, h => exact h
          | 3, hij, hord, h => exact anc_no hord (by kernel_rfl)
          | 4, hij, hord, h => exact absurd rfl hij
          | nX + 5, hij, hord, h => exact h
        | nX + 5, hij, hord, hui, hr => exact (show W = W2 from hr) ▸ h
      · intro iX jX v W W2 hij hord hi hui hr h
        match iX, hij, hord, hui, hr with
        | 0, hij, hord, hui, hr => exact (show W = W2 from hr) ▸ h
        | 1, hij, hord, hui, hr => exact (show W = W2 from hr) ▸ h
        | 2, hij, hord, hui, hr =>
          match jX, hij, hord, h with
          | 0, hij, hord, h => exact h
          | 1, hij, hord, h => exact h
          | 2, hij, hord, h => exact absurd rfl hij
          | 3, hij, hord, h => exact anc_no hord (by kernel_rfl)
          | 4, hij, hord, h => exact anc_no hord (by kernel_rfl)
          | nX + 5, hij, hord, h => exact h
        | 3, hij, hord, hui, hr =>
          match jX, hij, hord, h with
          | 0, hij, hord, h => exact h
          | 1, hij, hord, h => exact h
          | 2, hij, hord, h => exact (by obtain ⟨ar, cr, C, h1, h2, h3⟩ := h; exact ⟨ar, cr, C, h1, h2, own_grown2 h3 hr (HLt.out) h2⟩)
          | 3, hij, hord, h => exact absurd rfl hij
          | 4, hij, hord, h => exact anc_no hord (by kernel_rfl)
          | nX + 5, hij, hord, h => exact h
        | 4, hij, hord, hui, hr =>
          match jX, hij, hord, h with
          | 0, hij, hord, h => exact h
          | 1, hij, hord, h => exact h
          | 2, hij, hord, h => exact (by obtain ⟨u, rfl⟩ := hr; obtain ⟨ar, cr, C, h1, h2, h3⟩ := h; exact ⟨ar, cr, C, h1, h2, own_set h3 (HNb.out h3 h2) u⟩)
          | 3, hij, hord, h => exact (by obtain ⟨u, rfl⟩ := hr; obtain ⟨a3, c3, h1, h2⟩ := h; exact ⟨a3, c3, h1, own_set h2 ((show Boxed W Bb 29 bv from hui).not_row (by decide) h2) u⟩)
          | 4, hij, hord, h => exact absurd rfl hij
          | nX + 5, hij, hord, h => exact h
        | nX + 5, hij, hord, hui, hr => exact (show W = W2 from hr) ▸ h
      · intro iX o ho a W hN hi hui h
        match iX, ho, hui with
        | 0, ho, hui =>
          obtain rfl := Option.some.inj (show some _ = some o from ho)
          have e5 : a.eval (.tmp 5) = .pointer (some ⟨Bb, 0, none⟩) := hN.eval 5 (by kernel_rfl)
          have hc := (show Boxed W Bb 29 bv from hui).cell
          refine fillIn_value (v := bv) hO (by rfl) ho rfl (by rfl) (by clear h hN; have hcst : ∀ v, a.eval (.const v) = v := (fun _ => rfl); have hfun : ∀ f, a.eval (.func f) = .func (.func f) #[] #[] := (fun _ => rfl); generalize a.eval = ρ at *; go_simp) rfl (show W = W from rfl)
        | 1, ho, hui =>
          obtain rfl := Option.some.inj (show some _ = some o from ho)
          have e7 : a.eval (.tmp 7) = .pointer (some ⟨Bx, 0, none⟩) := hN.eval 7 (by kernel_rfl)
          obtain ⟨q0, q1, q2, q3⟩ := HXo.out W hi
          refine fillIn_value (v := .agg #[.int .i64 xv.k, .int .i64 xv.n, .string xv.t, .slice xv.a xv.ks.length xv.cap]) hO (by rfl) ho rfl (by rfl) (by clear h hN; have hcst : ∀ v, a.eval (.const v) = v := (fun _ => rfl); have hfun : ∀ f, a.eval (.func f) = .func (.func f) #[] #[] := (fun _ => rfl); generalize a.eval = ρ at *; go_simp) rfl (show W = W from rfl)
        | 2, ho, hui =>
          obtain rfl := Option.some.inj (show some _ = some o from ho)
          have e18 : a.eval (.tmp 18) = .agg #[.int .i64 xv.k, .int .i64 xv.n, .string xv.t, .slice xv.a xv.ks.length xv.cap] := h ⟨1, .data⟩ (by simp) rfl
          refine fillIn_enter (f := 29) (args := #[.agg #[.int .i64 xv.k, .int .i64 xv.n, .string xv.t, .slice xv.a xv.ks.length xv.cap]]) hO (by rfl) ho rfl (by rfl) (by clear h hN; have hcst : ∀ v, a.eval (.const v) = v := (fun _ => rfl); have hfun : ∀ f, a.eval (.func f) = .func (.func f) #[] #[] := (fun _ => rfl); generalize a.eval = ρ at *; go_simp) (HF.out W) ?_
          rintro e w2 ⟨ar, cr, rfl, ho3, hb3⟩
          exact ⟨_, rfl, ⟨ar, cr, _, rfl, hi.1, ho3⟩, hb3⟩
        | 3, ho, hui =>
          obtain rfl := Option.some.inj (show some _ = some o from ho)
          have e17 : a.eval (.tmp 17) = bv := h ⟨0, .data⟩ (by simp) rfl
          obtain ⟨ar, cr, C, e19, p19⟩ : ∃ ar cr C, a.eval (.tmp 19) = .slice ar FR.length cr ∧ (w2.heap.size ≤ C ∧ Fw.Own C (.slice ar FR.length cr) FR W) := h ⟨2, .data⟩ (by simp) rfl
          obtain ⟨v3, w4, hrun, hv4, _, hg4⟩ := app_rows hui p19.2 (Nat.le_trans HB0.out hi.1) HPos.out HLen.out 29
          rw [HLF.out trivial] at hv4
          obtain ⟨a3, c3, rfl⟩ := Fw.own_form hv4
          refine fillIn_value (v := .slice a3 LF.length c3) (w' := w4) hO (by rfl) ho rfl (by rfl) (by clear h hN; have hcst : ∀ v, a.eval (.const v) = v := (fun _ => rfl); have hfun : ∀ f, a.eval (.func f) = .func (.func f) #[] #[] := (fun _ => rfl); generalize a.eval = ρ at *; simp [execOp, resolve, invoke, builtin, e17, e19, hrun, Result.andThen]) ⟨a3, c3, rfl, hv4⟩ (hg4)
        | 4, ho, hui =>
          obtain rfl := Option.some.inj (show some _ = some o from ho)
          have e5 : a.eval (.tmp 5) = .pointer (some ⟨Bb, 0, none⟩) := hN.eval 5 (by kernel_rfl)
          obtain ⟨a3, c3, e20, p20⟩ : ∃ a3 c3, a.eval (.tmp 20) = .slice a3 LF.length c3 ∧ Fw.Own B0 (.slice a3 LF.length c3) LF W := h ⟨3, .data⟩ (by simp) rfl
          have hc := (show Boxed W Bb 29 bv from hui).cell
          have hfr := (show Boxed W Bb 29 bv from hui).frozen
          refine fillIn_done (w' := W.setCell ⟨Bb, 0, none⟩ (.slice a3 LF.length c3)) hO (by rfl) ho rfl (by rfl) (by clear h hN; have hcst : ∀ v, a.eval (.const v) = v := (fun _ => rfl); have hfun : ∀ f, a.eval (.func f) = .func (.func f) #[] #[] := (fun _ => rfl); generalize a.eval = ρ at *; go_simp) ⟨.slice a3 LF.length c3, rfl, (show Boxed W Bb 29 bv from hui).set _, own_set p20 ((show Boxed W Bb 29 bv from hui).not_row (by decide) p20) _⟩ (⟨.slice a3 LF.length c3, rfl⟩)
        | nX + 5, ho, hui => exact absurd ho (by simp)
      · intro vals W hi h
        have u0 : vals 0 = bv := h 0 (by decide)
        have u1 : vals 1 = .agg #[.int .i64 xv.k, .int .i64 xv.n, .string xv.t, .slice xv.a xv.ks.length xv.cap] := h 1 (by decide)
        obtain ⟨ar, cr, C, u2, p2⟩ : ∃ ar cr C, vals 2 = .slice ar FR.length cr ∧ (w2.heap.size ≤ C ∧ Fw.Own C (.slice ar FR.length cr) FR W) := h 2 (by decide)
        obtain ⟨a3, c3, u3, p3⟩ : ∃ a3 c3, vals 3 = .slice a3 LF.length c3 ∧ Fw.Own B0 (.slice a3 LF.length c3) LF W := h 3 (by decide)
        obtain ⟨v5, u4, p4⟩ : ∃ v5, vals 4 = undef ∧ (Boxed W Bb 29 v5 ∧ Fw.Own B0 v5 LF W) := h 4 (by decide)
        generalize hA : fill _ _ _ _ = A
        have hA2 : (Act.put (Act.put (Act.put (Act.put (Act.put (_ : Act) (some 17) (vals 0)) (some 18) (vals 1)) (some 19) (vals 2)) (some 20) (vals 3)) none (vals 4)) = A := hA
        clear hA h V R U
        rw [u0, u1, u2, u3, u4] at hA2
        simp only [fill, Act.put, List.setIfInBounds_toArray, List.set_cons_succ, List.set_cons_zero] at hA2
        subst hA2
        clear u0 u1 u2 u3 u4
        have HZ := Lib.hid p4
        have HIo := Lib.hid hi
        clear p2 p3 p4 hi
        obtain ⟨w5, hw5⟩ : ∃ V2, V2 = W := ⟨_, rfl⟩
        subst hw5
        gi_wp2
        obtain ⟨k1, k2⟩ := keeps_only (B := W0.heap.size) (n₀ := w.heap.size) (W := w2) HIo.out.2 (by have := HOrd2.out; omega) (fun q hq => by
          rcases hq with rfl | e
          · exact ⟨HOrd2.out.1, _, _, _, HBb2.out, by decide⟩
          · obtain ⟨h1, cur, hc⟩ := own_blk HOw2.out e
            exact ⟨by have := HOrd2.out; omega, _, _, _, hc, by decide⟩)
        refine ⟨k1, k2, ⟨_, HZ.out.1, ?_⟩, HI5.out.trans k2.1, by have := HOrd2.out; have := HIo.out.1; omega⟩
        rw [HOrd2.out.2.2.2.2]
        exact HLs2.out.symm ▸ HZ.out.2
    case done =>
      rintro D ys W hD hys ⟨⟨bv, i1, i2⟩, i5, i6⟩ hK
      have hfr : frs ys = bytesT (er (.mk k n t a cap ks)) := by unfold frs bytesT; rw [hys, V.pre_er]
      rw [hfr] at i2
      have HI := Lib.hid (show Fw.Own W0.heap.size bv (bytesT (er (.mk k n t a cap ks))) W ∧ Below w.heap.size w W from ⟨i2, i5⟩)
      have HD := Lib.hid hD
      have cb := i1.cell
      clear i1 i2 i5 i6 hfr hys HSt hD
      gi_wp2
      have hg := grownBy_putObj' W D (.deferred none)
      refine ⟨by simp, .inl ⟨_, _, rfl, run_takeDeferred hK, ?_⟩⟩
      have hX : Hid (Fw.Own w.heap.size bv (bytesT (er (.mk k n t a cap ks))) (W.putObj D (.deferred none))) := Lib.hid (own_up (own_same HI.out.1 fun k hk => by
        obtain ⟨_, cur, hc⟩ := own_blk HI.out.1 hk
        exact hg.block k (Array.getElem?_eq_some_iff.1 hc).1 (fun e => by cases e; rw [hK] at hc; cases hc)) hle)
      refine ⟨.tuple #[bv, .int .i64 0], ?_, ?_, Lib.hid (HI.out.2.grown hg HI.out.2.size (fun r e => by cases e; have := HD.out; have := HOrd.out; omega))⟩
      · simp [results, Tryd.f12, go_sem]
      · first | exact .inl ⟨rfl, bv, rfl, hX⟩ | exact ⟨bv, rfl, hX⟩
    case stop =>
      rintro D c pre W _ _ h _
      exact h.elim
  · have h0I : (ce != 0) = true := by simpa using h0
    gi_wp2_with (refine ⟨trivial, ?_⟩; gi_at_call 14; refine (callsIn_wide.2 HK.out).mono ?_; rintro e w2 ⟨rfl, hb2⟩)
    refine ⟨.tuple #[.slice none 0 0, .int .i64 ce], ?_, .inr ⟨h0, rfl⟩, Lib.hid (HB1.out.trans (hb2.out.mono HB1.out.size))⟩
    simp [results, Tryd.f12, go_sem]
end Go.Proofs.YtpacjcgpeomnaaaDoor
