/- ValBytes: the walk. -/
import Derived.Test.YtpacjcgpeomnaaaDoorValZ
namespace Go.Proofs.YtpacjcgpeomnaaaDoor
open Go.ChangeShapes Go.WideShapes Go.ChangeAt Go.RowKit
set_option linter.unusedVariables false
set_option maxRecDepth 20000

theorem conv_nil (w : World) : (convert 29 9 (.slice none 0 0)).run Tryd.prog w = .ok (.string ⟨#[]⟩) w := by
  go_simp <;> rfl
set_option maxHeartbeats 16000000 in
theorem valBytes_tab (v : V) (w : World) (hL : Lies (· < w.heap.size) w v) (ht : Tab w) :
    Calls Tryd.prog 3 #[v.val] w fun e w' => e = .returned (.bool true) ∧ Below w.heap.size w w' := by
  have HT := Lib.hid ht
  obtain ⟨W1, hW1⟩ : ∃ W1, w.alloc (.cells #[.int .i64 v.k, .int .i64 v.n, .string v.t, .slice v.a v.ks.length v.cap] 24) = W1 := ⟨_, rfl⟩
  have hB1 : Below w.heap.size w W1 := by rw [← hW1]; exact (Below.refl _ _).alloc (Nat.le_refl _) _
  have hbox : W1.heap[w.heap.size]? = some (.cells #[.int .i64 v.k, .int .i64 v.n, .string v.t, .slice v.a v.ks.length v.cap] 24 (0, 0)) := by rw [← hW1]; exact World.alloc_heap_new w _
  obtain ⟨b0, b1, b2, b3⟩ := box4 hbox
  have HB1 := Lib.hid hB1
  have hC := tame_any v W1 ((hL.below hB1).mono fun q hq => Nat.lt_of_lt_of_le hq hB1.size)
  unfold V.val at hC ⊢
  have HC := Lib.hid hC
  obtain ⟨E, hE⟩ : ∃ x, tm (er v) = x := ⟨_, rfl⟩
  have HE : Hid (tm (er v) = E ∧ tm E = E ∧ E.cnt ≤ 300 ∧ E.ht ≤ 210) := Lib.hid ⟨hE, by rw [← hE]; exact tm_tm _, by rw [← hE]; exact (tm_size _).1, by rw [← hE]; exact (tm_size _).2⟩
  obtain ⟨Bx, hBx⟩ : ∃ x, w.heap.size = x := ⟨_, rfl⟩
  have HBx := Lib.hid (show w.heap.size = Bx ∧ Bx < W1.heap.size ∧ W1.heap[Bx]? = some (.cells #[.int .i64 v.k, .int .i64 v.n, .string v.t, .slice v.a v.ks.length v.cap] 24 (0, 0)) by rw [← hBx]; exact ⟨rfl, (Array.getElem?_eq_some_iff.1 hbox).1, hbox⟩)
  rw [hBx] at b0 b1 b2 b3
  clear hB1 hbox hC hE hL ht
  go_enter Tryd.func3, Tryd.ntmps3
  go_wp2_with fail
  refine HC.out.mono ?_
  rintro e w2 ⟨y, rfl, hy, hb2⟩
  have hx2 : w2.heap[Bx]? = some (.cells #[.int .i64 v.k, .int .i64 v.n, .string v.t, .slice v.a v.ks.length v.cap] 24 (0, 0)) := by rw [hb2.out.block Bx HBx.out.2.1]; exact HBx.out.2.2
  clear b0 b1 b2 b3
  obtain ⟨b0, b1, b2, b3⟩ := box4 hx2
  obtain ⟨f0, f1, f2, f3⟩ := kept4 hx2
  go_upto_region 2 with fail
  generalize hW3 : World.setCell _ ⟨Bx, 3, none⟩ _ = W3
  have hx3 : W3.heap[Bx]? = some (.cells #[.int .i64 y.k, .int .i64 y.n, .string y.t, .slice y.a y.ks.length y.cap] 24 (0, 0)) := by rw [← hW3]; exact set4 hx2 _ _ _ _
  have hn3 : ∀ q, q ≠ Bx → W3.heap[q]? = w2.heap[q]? := fun q hq => by rw [← hW3]; exact set4_ne hq _ _ _ _
  have hB3 : Below w.heap.size w W3 := by rw [← hW3]; exact set4_below (HB1.out.trans (hb2.out.mono HB1.out.size)) (by have := HBx.out.1; omega) _ _ _ _
  have hz3 : W3.heap.size = w2.heap.size := by rw [← hW3]; simp [World.setCell]
  have hy3 : Lies (· < W3.heap.size) W3 y := hy.out.2.same (fun q hq => hn3 q (by have := HBx.out.2.1; omega)) (fun q hq => by show q < W3.heap.size; omega)
  have hey : er y = E := by rw [hy.out.1]; exact HE.out.1
  have hC2 := tame_any y W3 hy3
  unfold V.val at hC2
  have HC2 := Lib.hid hC2
  have HY := Lib.hid (show Lies (· < W3.heap.size) W3 y ∧ er y = E ∧ Below w.heap.size w W3 from ⟨hy3, hey, hB3⟩)
  have HX3 := Lib.hid hx3
  clear hW3 hx2 b0 b1 b2 b3 f0 f1 f2 f3 hn3 hB3 hz3 hy3 hey hC2 hy hb2 HC
  obtain ⟨b0, b1, b2, b3⟩ := box4 hx3
  clear hx3
  go_wp2_with fail
  refine HC2.out.mono ?_
  rintro e w4 ⟨u, rfl, hu, hb4⟩
  go_upto_region 3 with fail
  have hx5 : (w4.alloc (.cells #[.int .i64 u.k, .int .i64 u.n, .string u.t, .slice u.a u.ks.length u.cap] 24)).heap[w4.heap.size]? = some (.cells #[.int .i64 u.k, .int .i64 u.n, .string u.t, .slice u.a u.ks.length u.cap] 24 (0, 0)) := World.alloc_heap_new w4 _
  have hb5 : Below w4.heap.size w4 (w4.alloc (.cells #[.int .i64 u.k, .int .i64 u.n, .string u.t, .slice u.a u.ks.length u.cap] 24)) := (Below.refl _ _).alloc (Nat.le_refl _) _
  generalize w4.alloc (.cells #[.int .i64 u.k, .int .i64 u.n, .string u.t, .slice u.a u.ks.length u.cap] 24) = W5 at *
  obtain ⟨Bu, hBu⟩ : ∃ x, w4.heap.size = x := ⟨_, rfl⟩
  have hb35 : Below W3.heap.size W3 W5 := hb4.out.trans (hb5.mono hb4.out.size)
  have hy5 : Lies (· < W5.heap.size) W5 y := (HY.out.1.below hb35).mono (fun q hq => Nat.lt_of_lt_of_le hq hb35.size)
  have hu5 : Lies (· < W5.heap.size) W5 u := hu.out.2.same (fun q hq => hb5.block q hq.2) (fun q hq => Nat.lt_of_lt_of_le hq.2 hb5.size)
  have heu : er u = E := by rw [hu.out.1, HY.out.2.1]; exact HE.out.2.1
  have HBy := Lib.hid (fun W' (h : Below W5.heap.size W5 W') => box4_later (show W5.heap[Bx]? = some (.cells #[.int .i64 y.k, .int .i64 y.n, .string y.t, .slice y.a y.ks.length y.cap] 24 (0, 0)) by rw [hb35.block Bx (Array.getElem?_eq_some_iff.1 HX3.out).1]; exact HX3.out) h)
  have HBu := Lib.hid (fun W' (h : Below W5.heap.size W5 W') => box4_later (show W5.heap[Bu]? = some (.cells #[.int .i64 u.k, .int .i64 u.n, .string u.t, .slice u.a u.ks.length u.cap] 24 (0, 0)) by rw [← hBu]; exact hx5) h)
  have HB5 := Lib.hid (show Below w.heap.size w W5 from HY.out.2.2.trans (hb35.mono HY.out.2.2.size))
  have HLy : Hid (∀ W', Below W5.heap.size W5 W' → Lies (· < W'.heap.size) W' y ∧ Lies (· < W'.heap.size) W' u) := Lib.hid fun W' h => ⟨(hy5.below h).mono (fun q hq => Nat.lt_of_lt_of_le hq h.size), (hu5.below h).mono (fun q hq => Nat.lt_of_lt_of_le hq h.size)⟩
  have HEq := Lib.hid (show er y = E ∧ er u = E from ⟨HY.out.2.1, heu⟩)
  obtain ⟨ce, hce⟩ : ∃ x, chk E = x := ⟨_, rfl⟩
  have HR : Hid (∀ W', Below W5.heap.size W5 W' → Calls Tryd.prog 11 #[.agg #[.int .i64 y.k, .int .i64 y.n, .string y.t, .slice y.a y.ks.length y.cap]] W' fun e w' => ((ce = 0 ∧ e = .returned (.tuple #[.string (Fw.sv (bytesT E)), .int .i64 0])) ∨ (ce ≠ 0 ∧ e = .returned (.tuple #[.string ⟨#[]⟩, .int .i64 ce]))) ∧ Hid (Below W'.heap.size W' w')) := Lib.hid fun W' h => by
    have := refEncode_any y W' (HLy.out W' h).1 (by rw [HEq.out.1]; have := HE.out.2.2.2; omega)
    unfold V.val at this
    rw [HEq.out.1, hce] at this
    exact this
  have HP : Hid (∀ W', Below W5.heap.size W5 W' → Calls Tryd.prog 12 #[.agg #[.int .i64 y.k, .int .i64 y.n, .string y.t, .slice y.a y.ks.length y.cap]] W' fun e w' => ((ce = 0 ∧ ∃ r, e = .returned (.tuple #[r, .int .i64 0]) ∧ Hid (Fw.Own W'.heap.size r (bytesT E) w')) ∨ (ce ≠ 0 ∧ e = .returned (.tuple #[.slice none 0 0, .int .i64 ce]))) ∧ Hid (Below W'.heap.size W' w')) := Lib.hid fun W' h => by
    have := encode_any y W' (HLy.out W' h).1 (by rw [HEq.out.1]; have := HE.out.2.2.1; omega) (by rw [HEq.out.1]; have := HE.out.2.2.2; omega)
    unfold V.val at this
    rw [HEq.out.1, hce] at this
    exact this
  have HK : Hid (∀ W', Below W5.heap.size W5 W' → Calls Tryd.prog 14 #[.agg #[.int .i64 y.k, .int .i64 y.n, .string y.t, .slice y.a y.ks.length y.cap]] W' fun e w' => e = .returned (.int .i64 ce) ∧ Hid (Below W'.heap.size W' w')) := Lib.hid fun W' h => by
    have := check_any y W' (HLy.out W' h).1 (by rw [HEq.out.1]; have := HE.out.2.2.1; omega) (by rw [HEq.out.1]; have := HE.out.2.2.2; omega)
    unfold V.val at this
    rw [HEq.out.1, hce] at this
    exact this
  have HS : Hid (∀ W', Below W5.heap.size W5 W' → Calls Tryd.prog 15 #[.agg #[.int .i64 y.k, .int .i64 y.n, .string y.t, .slice y.a y.ks.length y.cap], .agg #[.int .i64 u.k, .int .i64 u.n, .string u.t, .slice u.a u.ks.length u.cap]] W' fun e w' => e = .returned (.bool true) ∧ Hid (Below W'.heap.size W' w')) := Lib.hid fun W' h => by
    have := refSame_any W'.heap.size y u W' (HLy.out W' h).1 (HLy.out W' h).2 (Nat.le_refl _)
    unfold V.val at this
    rw [HEq.out.1, HEq.out.2, eqT_yes rfl] at this
    exact this
  have HV : Hid (∀ W', Below W5.heap.size W5 W' → Calls Tryd.prog 13 #[] W' fun e w' => e = .returned (.bool true) ∧ Hid (Below W'.heap.size W' w')) := Lib.hid fun W' h => vals_any W' (tab_later (tab_later HT.out HB5.out) h)
  have HPos := Lib.hid (bytesT_pos E)
  obtain ⟨b0', b1', b2', b3'⟩ := HBy.out W5 (Below.refl _ _)
  rw [hBu]
  clear b0 b1 b2 b3 hx5 hb5 hb35 hy5 hu5 heu hu hb4 HC2 hBu hce
  have HC3 := Lib.hid (HR.out W5 (Below.refl _ _))
  go_wp2_with fail
  refine HC3.out.mono ?_
  rintro e w6 ⟨h6, hb6⟩
  have HB6 := Lib.hid (show Below W5.heap.size W5 w6 from hb6.out)
  have HC4 := Lib.hid (HP.out w6 HB6.out)
  clear HC3 hb6 b0' b1' b2' b3'
  obtain ⟨b0, b1, b2, b3⟩ := HBy.out w6 HB6.out
  rcases h6 with ⟨h0, rfl⟩ | ⟨h0, rfl⟩
  · go_wp2_with fail
    refine HC4.out.mono ?_
    rintro e w7 ⟨h7, hb7⟩
    obtain ⟨r, rfl, ho7⟩ : ∃ r, e = .returned (.tuple #[r, .int .i64 0]) ∧ Hid (Fw.Own w6.heap.size r (bytesT E) w7) := by
      rcases h7 with ⟨_, r, he, ho⟩ | ⟨h1, _⟩
      · exact ⟨r, he, ho⟩
      · exact absurd h0 h1
    have HB7 := Lib.hid (show Below W5.heap.size W5 w7 from HB6.out.trans (hb7.out.mono HB6.out.size))
    have HC5 := Lib.hid (HV.out w7 HB7.out)
    obtain ⟨ar, cr, rfl⟩ := Fw.own_form ho7.out
    clear hb7 HC4 b0 b1 b2 b3 h7
    subst h0
    obtain ⟨nb, hnb⟩ : ∃ x, (bytesT E).length = x := ⟨_, rfl⟩
    have HNb := Lib.hid (fun _ : True => hnb)
    rw [hnb] at ho7 ⊢
    clear hnb
    go_wp2_with fail
    refine HC5.out.mono ?_
    rintro e w8 ⟨rfl, hb8⟩
    have HB8 := Lib.hid (show Below W5.heap.size W5 w8 from HB7.out.trans (hb8.out.mono HB7.out.size))
    have hcv : (convert 29 9 (.slice ar nb cr)).run Tryd.prog w8 = .ok (.string (Fw.sv (bytesT E))) w8 := by
      have ho := ho7.out
      rw [← HNb.out trivial] at ho ⊢
      exact Fw.own_conv (Fw.own_later ho hb8.out) HPos.out
    obtain ⟨sB, hsB⟩ : ∃ x, Fw.sv (bytesT E) = x := ⟨_, rfl⟩
    rw [hsB] at hcv ⊢
    have HC6 := Lib.hid (HK.out w8 HB8.out)
    obtain ⟨b0, b1, b2, b3⟩ := HBy.out w8 HB8.out
    clear hb8 HC5
    go_wp2_with fail
    refine HC6.out.mono ?_
    rintro e w9 ⟨rfl, hb9⟩
    have HB9 := Lib.hid (show Below W5.heap.size W5 w9 from HB8.out.trans (hb9.out.mono HB8.out.size))
    have HC7 := Lib.hid (HS.out w9 HB9.out)
    clear b0 b1 b2 b3 HC6 hb9 hcv
    obtain ⟨b0, b1, b2, b3⟩ := HBy.out w9 HB9.out
    obtain ⟨c0, c1, c2, c3⟩ := HBu.out w9 HB9.out
    go_wp2_with fail
    refine HC7.out.mono ?_
    rintro e w10 ⟨rfl, hb10⟩
    have HB10 := Lib.hid (show Below w.heap.size w w10 from HB5.out.trans ((HB9.out.trans (hb10.out.mono HB9.out.size)).mono HB5.out.size))
    clear hb10
    go_wp2_with fail
    go_ret
    exact ⟨rfl, HB10.out⟩
  · go_wp2_with fail
    refine HC4.out.mono ?_
    rintro e w7 ⟨h7, hb7⟩
    obtain rfl : e = .returned (.tuple #[.slice none 0 0, .int .i64 ce]) := by
      rcases h7 with ⟨h1, _⟩ | ⟨_, he⟩
      · exact absurd h1 h0
      · exact he
    have HB7 := Lib.hid (show Below W5.heap.size W5 w7 from HB6.out.trans (hb7.out.mono HB6.out.size))
    have HC5 := Lib.hid (HV.out w7 HB7.out)
    clear hb7 HC4 b0 b1 b2 b3 h7
    go_wp2_with fail
    refine HC5.out.mono ?_
    rintro e w8 ⟨rfl, hb8⟩
    have HB8 := Lib.hid (show Below W5.heap.size W5 w8 from HB7.out.trans (hb8.out.mono HB7.out.size))
    have hcv := conv_nil w8
    have HC6 := Lib.hid (HK.out w8 HB8.out)
    obtain ⟨b0, b1, b2, b3⟩ := HBy.out w8 HB8.out
    clear hb8 HC5
    go_wp2_with fail
    refine HC6.out.mono ?_
    rintro e w9 ⟨rfl, hb9⟩
    have HB9 := Lib.hid (show Below W5.heap.size W5 w9 from HB8.out.trans (hb9.out.mono HB8.out.size))
    have HC7 := Lib.hid (HS.out w9 HB9.out)
    clear b0 b1 b2 b3 HC6 hb9 hcv
    obtain ⟨b0, b1, b2, b3⟩ := HBy.out w9 HB9.out
    obtain ⟨c0, c1, c2, c3⟩ := HBu.out w9 HB9.out
    go_wp2_with fail
    refine HC7.out.mono ?_
    rintro e w10 ⟨rfl, hb10⟩
    have HB10 := Lib.hid (show Below w.heap.size w w10 from HB5.out.trans ((HB9.out.trans (hb10.out.mono HB9.out.size)).mono HB5.out.size))
    clear hb10
    go_wp2_with fail
    go_ret
    exact ⟨rfl, HB10.out⟩
theorem val_arg {H : Type} {enc : TypeId × Value → H} {W : World} {r : Reach} {b0 : Nat} {held : Bool} {v0 : Value} {d : DataW H} {p : List MemPlace} (hv : Value.okWide Tryd.prog W r b0 24 v0) (h : DataW.Trod enc Tryd.prog W 0 (fun _ => true) held 24 v0 d p) : ∃ v : V, v0 = v.val ∧ Lies (· < W.heap.size) W v := by
  obtain ⟨cs, rfl, hsz⟩ := okWide_struct Tryd.underlying24 hv
  obtain ⟨fuel, hf⟩ := h
  obtain ⟨v, hv, hl⟩ := open_val fuel _ _ hf
  refine ⟨v, ?_, hl⟩
  have e : cs.toList = v.cells := hv
  have e2 : cs = v.cells.toArray := by rw [← e]
  rw [e2]
  rfl
theorem valBytes_walk (t0 : V) (w : World) (hl : laidMetH Tryd.prog [("math/bits.deBruijn32tab", Rows.laid_math_bits_deBruijn32tab), ("math/bits.deBruijn64tab", Rows.laid_math_bits_deBruijn64tab), ("internal/strconv.uint64pow10", Rows.laid_internal_strconv_uint64pow10)] w) (w0 : Lies (· < w.heap.size) w t0) :
    Calls Tryd.prog 3 #[t0.val] w fun e w' => e = .returned (.bool true) ∧ Below w.heap.size w w' := valBytes_tab t0 w w0 (tab_of_laid hl)
end Go.Proofs.YtpacjcgpeomnaaaDoor
