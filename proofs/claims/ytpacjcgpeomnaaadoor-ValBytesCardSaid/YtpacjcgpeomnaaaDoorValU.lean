/- Text; what the statements of val ask of two values. -/
import Derived.Test.YtpacjcgpeomnaaaDoorValT
namespace Go.Proofs.YtpacjcgpeomnaaaDoor
open Go.ChangeShapes Go.WideShapes Go.ChangeAt Go.RowKit
open Go.Proofs.YtpacjcgpeomnaaaDoor.Fw (zz vb bytesOf cells)
open Go.Proofs.YtpacjcgpeomnaaaDoor.Fd (st st_size)
set_option linter.unusedVariables false
set_option maxRecDepth 20000

def showT (v : T) : List UInt8 := if chk v = 0 then textT v else []
set_option maxHeartbeats 2000000 in
theorem show_any (v : V) (w : World) (hL : Lies (· < w.heap.size) w v) (hc : (er v).cnt ≤ 100000) (hh : (er v).ht ≤ 50000) (ht : Tab w) :
    Calls Tryd.prog 23 #[v.val] w fun e w' => e = .returned (.string (st (showT (er v)))) ∧ Hid (Below w.heap.size w w') := by
  have HL := Lib.hid hL
  have HT := Lib.hid ht
  have HTx : Hid (chk (er v) = 0 → TextOk w.heap.size v) := Lib.hid fun h => text_any _ v (InF.of_chk h) hc
  obtain ⟨k, n, t, ap, cap, ks⟩ := v
  obtain ⟨W1, hW1⟩ : ∃ W1, w.alloc (.cells #[.int .i64 k, .int .i64 n, .string t, .slice ap ks.length cap] 24) = W1 := ⟨_, rfl⟩
  have hB1 : Below w.heap.size w W1 := by rw [← hW1]; exact (Below.refl _ _).alloc (Nat.le_refl _) _
  have hbox : W1.heap[w.heap.size]? = some (.cells #[.int .i64 k, .int .i64 n, .string t, .slice ap ks.length cap] 24 (0, 0)) := by rw [← hW1]; exact World.alloc_heap_new w _
  have HB1 := Lib.hid hB1
  have HBox := Lib.hid hbox
  obtain ⟨b0, b1, b2, b3⟩ := box4 hbox
  have HK := Lib.hid (check_any (.mk k n t ap cap ks) W1 ((hL.below hB1).mono fun q h => Nat.lt_of_lt_of_le h hB1.size) hc hh)
  rw [V.val_eq] at HK ⊢
  obtain ⟨ce, hce⟩ : ∃ c, chk (er (.mk k n t ap cap ks)) = c := ⟨_, rfl⟩
  unfold showT
  rw [hce] at HK HTx ⊢
  clear hL hc hh hB1 hbox hce ht
  by_cases h0 : ce = 0
  · subst h0
    rw [if_pos rfl]
    have HTx2 := Lib.hid (HTx.out rfl)
    go_enter Tryd.func23, Tryd.ntmps23
    go_wp2_with fail
    refine HK.out.mono ?_
    rintro e w2 ⟨rfl, hb2⟩
    obtain ⟨d0, d1, d2, d3⟩ := box4_later HBox.out hb2.out
    have hb := HB1.out.trans (hb2.out.mono HB1.out.size)
    have HC := Lib.hid (HTx2.out w2 (HL.out.below hb) hb.size (tab_later HT.out hb))
    have HB2 := Lib.hid hb
    rw [V.val_eq] at HC
    clear hb hb2 HK HTx HTx2
    go_wp2_with fail
    refine HC.out.mono ?_
    rintro e w3 ⟨rfl, hb3⟩
    have HB3 := Lib.hid (HB2.out.trans (hb3.out.mono HB2.out.size))
    clear hb3
    go_wp2_with fail
    go_ret
    exact ⟨rfl, HB3⟩
  · rw [if_neg h0]
    have h0b : (ce != 0) = true := by simpa using h0
    clear h0 HTx
    go_enter Tryd.func23, Tryd.ntmps23
    go_wp2_with fail
    refine HK.out.mono ?_
    rintro e w2 ⟨rfl, hb2⟩
    have HB2 := Lib.hid (HB1.out.trans (hb2.out.mono HB1.out.size))
    clear hb2
    go_wp2_with fail
    go_ret
    exact ⟨rfl, HB2⟩
def t1 : T := .mk 3 2 ⟨#[]⟩ [.mk 6 0 ⟨#[]⟩ []]
def t2 : T := .mk 4 0 ⟨#[]⟩ [.mk 0 1 ⟨#[]⟩ [], .mk 2 0 ⟨#[97, 34, 98]⟩ []]
theorem t1_chk : chk t1 = 0 := by decide +kernel
theorem t1_bytes : bytesT t1 = [6, 4, 2, 12] := by decide +kernel
theorem t2_chk : chk t2 = 0 := by decide +kernel
theorem t2_text : textT t2 = [40, 49, 44, 34, 97, 92, 34, 98, 34, 41] := by decide +kernel
def v1 (g : Nat) : V := .mk 3 2 ⟨#[]⟩ (some ⟨g, 0, none⟩) 1 [.mk 6 0 ⟨#[]⟩ none 0 []]
def v2 (g : Nat) : V := .mk 4 0 ⟨#[]⟩ (some ⟨g, 0, none⟩) 2 [.mk 0 1 ⟨#[]⟩ none 0 [], .mk 2 0 ⟨#[97, 34, 98]⟩ none 0 []]
theorem v1_er (g : Nat) : er (v1 g) = t1 := by unfold v1 t1; simp [er, ers]
theorem v2_er (g : Nat) : er (v2 g) = t2 := by unfold v2 t2; simp [er, ers]
theorem wd_s (n : Int) (h : -100000 ≤ n ∧ n ≤ 100000) : Wd n := by unfold Wd; omega
theorem lies_leaf {F : Nat → Prop} {w : World} (k n : Int) (t : ByteArray) (hk : Wd k) (hn : Wd n) (ht : t.size ≤ maxLen) : Lies F w (.mk k n t none 0 []) := Lies.of ⟨hk, hn, ht, Nat.le_refl _, by show 0 ≤ maxLen; unfold maxLen; omega⟩ (.inl rfl)
theorem v1_lies {w : World} {g : Nat} (h : w.heap[g]? = some (.cells #[.int .i64 6, .int .i64 0, .string ⟨#[]⟩, .slice none 0 0] 24 (0, 0))) : Lies (· < w.heap.size) w (v1 g) := by
  refine Lies.of ⟨wd_s _ (show -100000 ≤ (3 : Int) ∧ (3 : Int) ≤ 100000 by decide), wd_s _ (show -100000 ≤ (2 : Int) ∧ (2 : Int) ≤ 100000 by decide), by show (0 : Nat) ≤ maxLen; unfold maxLen; omega, Nat.le_refl _, by show (1 : Nat) ≤ maxLen; unfold maxLen; omega⟩ (.inr ⟨g, 0, rfl, (Array.getElem?_eq_some_iff.1 h).1, ?_⟩)
  unfold v1 V.ks Row
  obtain ⟨c0, c1, c2, c3⟩ := box4 h
  refine ⟨⟨c0, c1, c2, c3⟩, lies_leaf _ _ _ (wd_s _ (by decide)) (wd_s _ (by decide)) (by show (0 : Nat) ≤ maxLen; unfold maxLen; omega), ?_⟩
  unfold Row
  trivial
theorem v2_lies {w : World} {g : Nat} (h : w.heap[g]? = some (.cells #[.int .i64 0, .int .i64 1, .string ⟨#[]⟩, .slice none 0 0, .int .i64 2, .int .i64 0, .string ⟨#[97, 34, 98]⟩, .slice none 0 0] 24 (0, 0))) : Lies (· < w.heap.size) w (v2 g) := by
  refine Lies.of ⟨wd_s _ (show -100000 ≤ (4 : Int) ∧ (4 : Int) ≤ 100000 by decide), wd_s _ (show -100000 ≤ (0 : Int) ∧ (0 : Int) ≤ 100000 by decide), by show (0 : Nat) ≤ maxLen; unfold maxLen; omega, Nat.le_refl _, by show (2 : Nat) ≤ maxLen; unfold maxLen; omega⟩ (.inr ⟨g, 0, rfl, (Array.getElem?_eq_some_iff.1 h).1, ?_⟩)
  unfold v2 V.ks Row
  refine ⟨⟨by simp [World.cell?, h, V.k], by simp [World.cell?, h, V.n], by simp [World.cell?, h, V.t], by simp [World.cell?, h, V.a, V.ks, V.cap]⟩, lies_leaf _ _ _ (wd_s _ (by decide)) (wd_s _ (by decide)) (by show (0 : Nat) ≤ maxLen; unfold maxLen; omega), ?_⟩
  unfold Row
  refine ⟨⟨by simp [World.cell?, h, V.k], by simp [World.cell?, h, V.n], by simp [World.cell?, h, V.t], by simp [World.cell?, h, V.a, V.ks, V.cap]⟩, lies_leaf _ _ _ (wd_s _ (by decide)) (wd_s _ (by decide)) (by show (3 : Nat) ≤ maxLen; unfold maxLen; omega), ?_⟩
  unfold Row
  trivial
set_option maxHeartbeats 4000000 in
theorem vals_any (w : World) (ht : Tab w) : Calls Tryd.prog 13 #[] w fun e w' => e = .returned (.bool true) ∧ Hid (Below w.heap.size w w') := by
  have HT := Lib.hid ht
  obtain ⟨W1, hW1⟩ : ∃ W1, w.alloc (.cells #[.int .i64 6, .int .i64 0, .string ⟨#[]⟩, .slice none 0 0] 24) = W1 := ⟨_, rfl⟩
  have hB1 : Below w.heap.size w W1 := by rw [← hW1]; exact (Below.refl _ _).alloc (Nat.le_refl _) _
  have hbox : W1.heap[w.heap.size]? = some (.cells #[.int .i64 6, .int .i64 0, .string ⟨#[]⟩, .slice none 0 0] 24 (0, 0)) := by rw [← hW1]; exact World.alloc_heap_new w _
  have HB1 := Lib.hid hB1
  have hE := encode_any (v1 w.heap.size) W1 (v1_lies hbox) (by rw [v1_er]; decide +kernel) (by rw [v1_er]; decide +kernel)
  rw [v1_er, t1_bytes, t1_chk] at hE
  have HE : Hid (Calls Tryd.prog 12 #[.agg #[.int .i64 3, .int .i64 2, .string ⟨#[]⟩, .slice (some ⟨w.heap.size, 0, none⟩) 1 1]] W1 fun e w' => (∃ ap cp, e = .returned (.tuple #[.slice ap 4 cp, .int .i64 0]) ∧ (convert 29 9 (.slice ap 4 cp)).run Tryd.prog w' = .ok (.string ⟨#[6, 4, 2, 12]⟩) w') ∧ Below W1.heap.size W1 w') := Lib.hid (hE.mono fun e w' ⟨h, hb⟩ => by
    rcases h with ⟨_, r, he, ho⟩ | ⟨h, _⟩
    · obtain ⟨ap, cp, rfl⟩ := Fw.own_form ho.out
      exact ⟨⟨ap, cp, he, Fw.own_conv ho.out (by decide)⟩, hb.out⟩
    · exact absurd rfl h)
  clear hE hB1 hbox ht
  go_enter Tryd.func13, Tryd.ntmps13
  go_wp2_with fail
  refine HE.out.mono ?_
  rintro e w2 ⟨⟨ap, cp, rfl, hcv⟩, hb2⟩
  have hb := HB1.out.trans (hb2.mono HB1.out.size)
  obtain ⟨W3, hW3⟩ : ∃ W3, w2.alloc (.cells #[.int .i64 0, .int .i64 1, .string ⟨#[]⟩, .slice none 0 0, .int .i64 2, .int .i64 0, .string ⟨#[97, 34, 98]⟩, .slice none 0 0] 24) = W3 := ⟨_, rfl⟩
  have hB3 : Below w2.heap.size w2 W3 := by rw [← hW3]; exact (Below.refl _ _).alloc (Nat.le_refl _) _
  have hbox3 : W3.heap[w2.heap.size]? = some (.cells #[.int .i64 0, .int .i64 1, .string ⟨#[]⟩, .slice none 0 0, .int .i64 2, .int .i64 0, .string ⟨#[97, 34, 98]⟩, .slice none 0 0] 24 (0, 0)) := by rw [← hW3]; exact World.alloc_heap_new w2 _
  have hS := show_any (v2 w2.heap.size) W3 (v2_lies hbox3) (by rw [v2_er]; decide +kernel) (by rw [v2_er]; decide +kernel) (tab_later (tab_later HT.out hb) hB3)
  rw [v2_er, show showT t2 = [40, 49, 44, 34, 97, 92, 34, 98, 34, 41] by unfold showT; rw [t2_chk, if_pos rfl, t2_text]] at hS
  have HS : Hid (Calls Tryd.prog 23 #[.agg #[.int .i64 4, .int .i64 0, .string ⟨#[]⟩, .slice (some ⟨w2.heap.size, 0, none⟩) 2 2]] W3 fun e w' => e = .returned (.string ⟨#[40, 49, 44, 34, 97, 92, 34, 98, 34, 41]⟩) ∧ Hid (Below W3.heap.size W3 w')) := Lib.hid hS
  have HB3 := Lib.hid (hb.trans (hB3.mono hb.size))
  clear hS hB3 hbox3 hb hb2 HE HB1 hW1
  go_wp2_with fail
  refine HS.out.mono ?_
  rintro e w4 ⟨rfl, hb4⟩
  have HB4 := Lib.hid (HB3.out.trans (hb4.out.mono HB3.out.size))
  clear hb4
  go_wp2_with fail
  go_ret
  exact ⟨rfl, HB4⟩
end Go.Proofs.YtpacjcgpeomnaaaDoor
