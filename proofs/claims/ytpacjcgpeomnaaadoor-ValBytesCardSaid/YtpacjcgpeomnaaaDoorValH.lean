/- The document's words of val: Encode. -/
import Derived.Test.YtpacjcgpeomnaaaDoorValG
namespace Go.Proofs.YtpacjcgpeomnaaaDoor
open Go.ChangeShapes Go.WideShapes Go.ChangeAt Go.RowKit
open Go.Proofs.YtpacjcgpeomnaaaDoor.Fw (zz vb bytesOf cells)
set_option linter.unusedVariables false
set_option maxRecDepth 20000

theorem right_inF {v : T} {d : Nat} (h : rightB (v.pre d) = true) : InF v := fun x hx => by
  obtain ⟨y, hy, e⟩ := pre_shift 0 d v x hx
  have := List.all_eq_true.1 h y hy
  rw [Bool.and_eq_true] at this
  rw [← e]
  exact this.2
theorem front_pos (v : T) : 0 < (front v).length := by
  unfold front
  rw [List.length_append]
  have := Fw.vb_pos (zz v.k)
  omega
theorem bytesT_pos (v : T) : 0 < (bytesT v).length := by
  unfold bytesT
  obtain ⟨k, n, t, ks⟩ := v
  rw [T.pre_eq, List.flatMap_cons, List.length_append]
  have h : 0 < (front (1, T.mk k n t ks).2).length := front_pos (.mk k n t ks)
  omega
set_option maxHeartbeats 4000000 in
theorem refEncode_any (v : V) (w : World) (hL : Lies (· < w.heap.size) w v) (hh : (er v).ht ≤ 50000) :
    Calls Tryd.prog 11 #[v.val] w fun e w' => ((chk (er v) = 0 ∧ e = .returned (.tuple #[.string (Fw.sv (bytesT (er v))), .int .i64 0])) ∨ (chk (er v) ≠ 0 ∧ e = .returned (.tuple #[.string ⟨#[]⟩, .int .i64 (chk (er v))]))) ∧ Hid (Below w.heap.size w w') := by
  have HR : Hid (∀ W, Below w.heap.size w W → Calls Tryd.prog 26 #[v.val, .int .i64 1] W fun e w' => e = .returned (.bool (rightB ((er v).pre 1))) ∧ Hid (Below W.heap.size W w')) := Lib.hid fun W hb => refRight_any w.heap.size v 1 W (hL.below hb) hb.size (by omega)
  have HY : Hid (rightB ((er v).pre 1) = true → ∀ W, Below w.heap.size w W → Calls Tryd.prog 27 #[.slice none 0 0, v.val] W fun e w' => ∃ r, e = .returned r ∧ Hid (Fw.Own W.heap.size r (bytesC [] (er v)) w') ∧ Hid (Below W.heap.size W w' ∧ KeepN W w')) := Lib.hid fun hr W hb => refBytes_any w.heap.size v (right_inF hr) W.heap.size (.slice none 0 0) [] W (hL.below hb) hb.size (Nat.le_refl _) ⟨by decide, .inl ⟨rfl, rfl⟩⟩
  obtain ⟨t1, t2⟩ := bytesC_tot (er v) 1 []
  have t3 : totN ((er v).pre 1) = (bytesT (er v)).length := rfl
  have t4 : ((er v).pre 1).flatMap (fun x => front x.2) = bytesT (er v) := rfl
  rw [t3, t4] at t1
  rw [t3] at t2
  simp only [List.length_nil, Nat.zero_add, List.nil_append] at t1 t2
  have HP := Lib.hid (show 0 < (bytesT (er v)).length from bytesT_pos _)
  have hck : chk (er v) = if rightB ((er v).pre 1) = false then 2 else if 16384 < (bytesT (er v)).length then 4 else 0 := rfl
  generalize bytesC [] (er v) = C at *
  generalize bytesT (er v) = Y at *
  generalize rightB ((er v).pre 1) = R at *
  generalize chk (er v) = E at *
  have HT := Lib.hid (show (Y.length ≤ 32768 → C = Y) ∧ (16384 < Y.length → 16384 < C.length) from ⟨t1, t2⟩)
  clear t1 t2 t3 t4 hL hh
  obtain ⟨k, n, t, a, cap, ks⟩ := v
  rw [V.val_eq] at HR HY ⊢
  obtain ⟨W1, hW1⟩ : ∃ W1, w.alloc (.cells #[.int .i64 k, .int .i64 n, .string t, .slice a ks.length cap] 24) = W1 := ⟨_, rfl⟩
  have hB1 : Below w.heap.size w W1 := by rw [← hW1]; exact (Below.refl _ _).alloc (Nat.le_refl _) _
  have hbox : W1.heap[w.heap.size]? = some (.cells #[.int .i64 k, .int .i64 n, .string t, .slice a ks.length cap] 24 (0, 0)) := by rw [← hW1]; exact World.alloc_heap_new w _
  have HB := Lib.hid (show Below w.heap.size w W1 ∧ W1.heap[w.heap.size]? = some (.cells #[.int .i64 k, .int .i64 n, .string t, .slice a ks.length cap] 24 (0, 0)) from ⟨hB1, hbox⟩)
  obtain ⟨b0, b1, b2, b3⟩ := box4 hbox
  have HC1 := Lib.hid (HR.out W1 hB1)
  clear hB1 hbox
  go_enter Tryd.func11, Tryd.ntmps11
  go_wp2_with fail
  refine HC1.out.mono ?_
  rintro e w2 ⟨rfl, hb2⟩
  obtain ⟨c0, c1, c2, c3⟩ := box4_later HB.out.2 hb2.out
  cases R with
  | false =>
    have HE : Hid (E = 2) := Lib.hid (by rw [hck]; rfl)
    have HF := Lib.hid (show Below w.heap.size w w2 from HB.out.1.trans (hb2.out.mono HB.out.1.size))
    clear hck hb2
    go_wp2_with fail
    go_ret2
    exact ⟨.inr ⟨by rw [HE.out]; decide, by rw [HE.out]; rfl⟩, HF⟩
  | true =>
    have HC2 := Lib.hid (HY.out rfl w2 (HB.out.1.trans (hb2.out.mono HB.out.1.size)))
    have HB2 := Lib.hid (show Below w.heap.size w w2 from HB.out.1.trans (hb2.out.mono HB.out.1.size))
    clear hb2
    go_wp2_with fail
    refine HC2.out.mono ?_
    rintro e w3 ⟨r, rfl, ho3, hb3⟩
    obtain ⟨a3, c3, rfl⟩ := Fw.own_form ho3.out
    have HF := Lib.hid (show Below w.heap.size w w3 from HB2.out.trans (hb3.out.1.mono HB2.out.size))
    obtain ⟨m, hm⟩ : ∃ m, C.length = m := ⟨_, rfl⟩
    by_cases hbig : 16384 < m
    · have hbI : (16384 : Int) < (m : Int) := by omega
      have HE : Hid (E = 4) := Lib.hid (by
        rw [hck, if_neg (by simp)]
        by_cases hy : 16384 < Y.length
        · rw [if_pos hy]
        · have := HT.out.1 (by omega)
          rw [this] at hm
          omega)
      rw [hm]
      clear hck hb3 ho3 hbig hm
      go_wp2_with fail
      go_ret2
      exact ⟨.inr ⟨by rw [HE.out]; decide, by rw [HE.out]; rfl⟩, HF⟩
    · have hbI : ¬ ((16384 : Int) < (m : Int)) := by omega
      have hy : ¬ 16384 < Y.length := fun h => by have := HT.out.2 h; omega
      obtain rfl : C = Y := HT.out.1 (by omega)
      have HE : Hid (E = 0) := Lib.hid (by rw [hck, if_neg (by simp), if_neg hy])
      have hconv := Fw.own_conv ho3.out HP.out
      rw [hm] at hconv ⊢
      clear hck hb3 ho3 hbig hy hm
      go_wp2_with fail
      go_ret2
      exact ⟨.inl ⟨HE.out, rfl⟩, HF⟩
end Go.Proofs.YtpacjcgpeomnaaaDoor
