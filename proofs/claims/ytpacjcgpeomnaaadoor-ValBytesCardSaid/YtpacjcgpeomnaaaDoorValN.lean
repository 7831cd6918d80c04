/- The document's words of val: Tame. -/
import Derived.Test.YtpacjcgpeomnaaaDoorValM
import Derived.Test.YtpacjcgpeomnaaaDoorValLW
import Derived.Lib.SmallJoins
import Derived.Laws.ResultCell
namespace Go.Proofs.YtpacjcgpeomnaaaDoor
open Go.ChangeShapes Go.WideShapes Go.ChangeAt Go.RowKit
set_option linter.unusedVariables false
set_option maxRecDepth 20000

def TameOk (n₀ : Nat) (x : V) : Prop := ∀ (d l : Nat) (W : World), Lies (· < n₀) W x → n₀ ≤ W.heap.size → 1 ≤ l → l ≤ 1000 → d ≤ 1000 →
  Calls Tryd.prog 25 #[x.val, .int .i64 (d : Int), .int .i64 (l : Int)] W fun e w' => ∃ y : V, e = .returned (.tuple #[.agg #[.int .i64 y.k, .int .i64 y.n, .string y.t, .slice y.a y.ks.length y.cap], .int .i64 ((tamT (er x) d l).2 : Int)]) ∧ Hid (er y = (tamT (er x) d l).1 ∧ Lies (fun q => W.heap.size ≤ q ∧ q < w'.heap.size) w' y) ∧ Hid (Below W.heap.size W w')
theorem ownJ_blk {B : Nat} {v : Value} {L : List V} {w : World} {g : Nat} (h : OwnV B v L w) (e : v.ownBlock = some g) : B ≤ g ∧ g < w.heap.size := by
  rcases h.2 with ⟨rfl, _⟩ | ⟨g', cap, cur, rfl, hg, hh, _⟩
  · cases e
  · cases e
    exact ⟨hg, (Array.getElem?_eq_some_iff.1 hh).1⟩
/-- the kids of a tamed value, and that they stay -/
def KidsAt (B : Nat) (v : Value) (L : List V) (w : World) : Prop := OwnV B v L w ∧ ∀ x ∈ L, Lies (fun q => B ≤ q ∧ q < w.heap.size ∧ some q ≠ v.ownBlock) w x
theorem kids_more {B : Nat} {v v' : Value} {L : List V} {wr w5 W6 w8 : World} {y : V} (h : KidsAt B v L wr) (hB : B ≤ wr.heap.size) (h5 : Below wr.heap.size wr w5) (hy : Lies (fun q => wr.heap.size ≤ q ∧ q < w5.heap.size) w5 y) (h6 : Below w5.heap.size w5 W6)
    (ho : OwnV B v' (L ++ [y]) w8) (h8 : W6.heap.size ≤ w8.heap.size) (hs : ∀ q, q < W6.heap.size → some q ≠ v.ownBlock → w8.heap[q]? = W6.heap[q]?) (hb : v'.ownBlock = v.ownBlock ∨ ∃ g, v'.ownBlock = some g ∧ W6.heap.size ≤ g) : KidsAt B v' (L ++ [y]) w8 := by
  refine ⟨ho, fun x hx => ?_⟩
  rcases List.mem_append.1 hx with hx | hx
  · refine (h.2 x hx).same (fun q hq => ?_) (fun q hq => ⟨hq.1, by have := h5.size; have := h6.size; omega, ?_⟩)
    · rw [hs q (by have := h5.size; have := h6.size; omega) hq.2.2, h6.block q (by have := h5.size; omega), h5.block q hq.2.1]
    · rcases hb with hb | ⟨g, hb, hg⟩
      · rw [hb]; exact hq.2.2
      · rw [hb]; intro e; cases e; have := h5.size; have := h6.size; omega
  · obtain rfl : x = y := by simpa using hx
    have hne : ∀ q, wr.heap.size ≤ q → some q ≠ v.ownBlock := fun q hq e => by have := (ownJ_blk h.1 e.symm).2; omega
    refine hy.same (fun q hq => ?_) (fun q hq => ⟨by omega, by have := h6.size; omega, ?_⟩)
    · rw [hs q (by have := h6.size; omega) (hne q hq.1), h6.block q hq.2]
    · rcases hb with hb | ⟨g, hb, hg⟩
      · rw [hb]; exact hne q hq.1
      · rw [hb]; intro e; cases e; have := h6.size; omega
theorem kids_tree {B : Nat} {a : Option Addr} {j cap : Nat} {L : List V} {w W : World} {k n : Int} {t : ByteArray} (h : KidsAt B (.slice a j cap) L w) (hj : L.length = j) (hk : Wd k) (hn : Wd n) (ht : t.size ≤ maxLen) (hs : ∀ q, B ≤ q → W.heap[q]? = w.heap[q]?) (hz : w.heap.size ≤ W.heap.size) (C : Nat) (hC : C ≤ B) : Lies (fun q => C ≤ q ∧ q < W.heap.size) W (.mk k n t a cap L) := by
  have hl : ∀ x ∈ L, Lies (fun q => C ≤ q ∧ q < W.heap.size) W x := fun x hx => (h.2 x hx).same (fun q hq => hs q hq.1) (fun q hq => ⟨by omega, by omega⟩)
  rcases h.1.2 with ⟨e, e0⟩ | ⟨g, cap', cur, e, hg, hh, h1, h2, h3, h4⟩
  · cases e
    obtain rfl : L = [] := List.eq_nil_of_length_eq_zero e0
    exact Lies.of ⟨hk, hn, ht, Nat.le_refl _, by show 0 ≤ maxLen; unfold maxLen; omega⟩ (.inl rfl)
  · simp only [Value.slice.injEq] at e
    obtain ⟨rfl, _, rfl⟩ := e
    have hh2 : W.heap[g]? = some (.cells cur 24 (0, 0)) := (hs g hg).trans hh
    exact Lies.of ⟨hk, hn, ht, h1, h2⟩ (.inr ⟨g, 0, rfl, ⟨by omega, (Array.getElem?_eq_some_iff.1 hh2).1⟩, row_at hh2 _ 0 (by rw [List.drop_zero]; exact h4) hl⟩)
set_option maxHeartbeats 16000000 in
theorem refTame_any (n₀ : Nat) (v : V) : TameOk n₀ v := by
  induction v using V.ind with
  | h k n t ap cap ks ih =>
    intro d l W hL hn hl1 hl2 hd
    have hwk : Wd k := hL.ok.1
    have hwn : Wd n := hL.ok.2.1
    have htm : t.size ≤ maxLen := hL.ok.2.2.1
    have hok : ks.length ≤ cap := hL.ok.2.2.2.1
    have hmx : cap ≤ maxLen := hL.ok.2.2.2.2
    obtain ⟨g, o, ha, hg, hr⟩ := row_of hL
    have HR := Lib.hid (show (ks ≠ [] → ap = some ⟨g, o, none⟩) ∧ (ks ≠ [] → g < n₀) ∧ Row (· < n₀) W g o ks from ⟨ha, hg, hr⟩)
    have HW := Lib.hid (show Wd k ∧ Wd n ∧ t.size ≤ maxLen from ⟨hwk, hwn, htm⟩)
    have HT := Lib.hid (show tamT (er (.mk k n t ap cap ks)) d l = (.mk k n (t.extract 0 (min t.size 5000)) (tamL (ks.map er) d (l - 1) 0).1, (tamL (ks.map er) d (l - 1) 0).2) by rw [er_mk, tamT_eq])
    rw [HT.out, V.val_eq]
    obtain ⟨W0, hW0⟩ : ∃ W1, W.alloc (.cells #[.int .i64 k, .int .i64 n, .string t, .slice ap ks.length cap] 24) = W1 := ⟨_, rfl⟩
    have hB0 : Below W.heap.size W W0 := by rw [← hW0]; exact (Below.refl _ _).alloc (Nat.le_refl _) _
    have hz0 : W0.heap.size = W.heap.size + 1 := by rw [← hW0]; simp
    have hbox0 : W0.heap[W.heap.size]? = some (.cells #[.int .i64 k, .int .i64 n, .string t, .slice ap ks.length cap] 24 (0, 0)) := by rw [← hW0]; exact World.alloc_heap_new W _
    obtain ⟨W1, hW1⟩ : ∃ W1, W0.alloc (.cells #[.int .i64 0, .int .i64 0, .string ⟨#[]⟩, .slice none 0 0] 24) = W1 := ⟨_, rfl⟩
    have hB1 : Below W0.heap.size W0 W1 := by rw [← hW1]; exact (Below.refl _ _).alloc (Nat.le_refl _) _
    have hz1 : W1.heap.size = W.heap.size + 2 := by rw [← hW1]; simp; omega
    have hbox1 : W1.heap[W0.heap.size]? = some (.cells #[.int .i64 0, .int .i64 0, .string ⟨#[]⟩, .slice none 0 0] 24 (0, 0)) := by rw [← hW1]; exact World.alloc_heap_new W0 _
    have hbox2 : W1.heap[W.heap.size]? = some (.cells #[.int .i64 k, .int .i64 n, .string t, .slice ap ks.length cap] 24 (0, 0)) := by rw [hB1.block _ (Array.getElem?_eq_some_iff.1 hbox0).1]; exact hbox0
    have HIh := Lib.hid ih
    have HN := Lib.hid hn
    have HB1 := Lib.hid (show Below W.heap.size W W1 from hB0.trans (hB1.mono hB0.size))
    obtain ⟨m, hm⟩ : ∃ m, ks.length = m := ⟨_, rfl⟩
    obtain ⟨l0, hl0⟩ : ∃ l0, l = l0 + 1 := ⟨l - 1, by omega⟩
    subst hl0
    rw [show l0 + 1 - 1 = l0 by omega]
    have hlI : ((l0 + 1 : Nat) : Int) - 1 = (l0 : Int) := by omega
    have hl0I : (l0 : Int) ≤ 1000 := by omega
    have hdI : (d : Int) ≤ 1000 := by omega
    obtain ⟨lI, hlIe⟩ : ∃ x : Int, ((l0 + 1 : Nat) : Int) = x := ⟨_, rfl⟩
    rw [hlIe] at hlI ⊢
    have hlb : lI ≤ 1001 := by omega
    have hla : 1 ≤ lI := by omega
    rw [hm] at hok hbox2 hW0 ⊢
    have HBx := Lib.hid (show W1.heap[W.heap.size]? = some (.cells #[.int .i64 k, .int .i64 n, .string t, .slice ap m cap] 24 (0, 0)) ∧ W1.heap[W0.heap.size]? = some (.cells #[.int .i64 0, .int .i64 0, .string ⟨#[]⟩, .slice none 0 0] 24 (0, 0)) ∧ W0.heap.size = W.heap.size + 1 ∧ W1.heap.size = W.heap.size + 2 from ⟨hbox2, hbox1, hz0, hz1⟩)
    obtain ⟨Ba, hBa⟩ : ∃ x, W.heap.size = x := ⟨_, rfl⟩
    obtain ⟨Bb, hBb⟩ : ∃ x, W0.heap.size = x := ⟨_, rfl⟩
    have HSz := Lib.hid (show W.heap.size = Ba ∧ Bb = Ba + 1 ∧ W1.heap.size = Ba + 2 from ⟨hBa, by omega, by omega⟩)
    rw [hBa, hBb] at HBx
    have HM := Lib.hid hm
    have hokI : (m : Int) ≤ (cap : Int) := by omega
    have hmI : (m : Int) ≤ 9223372036854775807 := by unfold maxLen at hmx; omega
    have htI : (t.size : Int) ≤ 9223372036854775807 := by unfold maxLen at htm; omega
    clear hL hn hl1 hl2 hwk hwn htm ha hg hr hB0 hz0 hbox0 hB1 hz1 hbox1 hbox2 ih hmx hok hm hlIe
    go_enter Tryd.func25, Tryd.ntmps25
    go_upto_region 2 with fail
    clear hW0 hW1
    go_wp2_with fail
    go_loopw [2, 8, 9, 10, 11] (fun s2 s8 s9 s10 s11 wr => ∃ (j l2 : Nat) (ax : Option Addr) (cx : Nat) (L : List V), s2 = .int .i64 (l2 : Int) ∧ s8 = .slice ax j cx ∧ s9 = .int .i64 (j : Int) ∧ j ≤ m ∧ j ≤ 12 ∧ l2 ≤ 1000 ∧ Hid (tamL (ks.map er) d l0 0 = (L.map er ++ (tamL ((ks.drop j).map er) d l2 j).1, (tamL ((ks.drop j).map er) d l2 j).2)) ∧ Hid (L.length = j ∧ KidsAt W1.heap.size (.slice ax j cx) L wr) ∧ Hid (Below W1.heap.size W1 wr)) (fun _ _ i _ _ _ => m - (intOf i).toNat)
    case atStart => exact ⟨0, l0, none, 0, [], rfl, rfl, rfl, Nat.zero_le _, by omega, by omega, Lib.hid (by simp), Lib.hid ⟨rfl, World.ownsRow_nil _ _ _ _, fun x hx => by cases hx⟩, Lib.hid (Below.refl _ _)⟩
    case round =>
      obtain ⟨j, l2, ax, cx, L, rfl, rfl, rfl, hj, hj12, hl2, HE, HK, HB⟩ := hrel
      have hbA : wr.heap[Ba]? = some (.cells #[.int .i64 k, .int .i64 n, .string t, .slice ap m cap] 24 (0, 0)) := by rw [HB.out.block Ba (by have := HSz.out; omega)]; exact HBx.out.1
      have hbB : wr.heap[Bb]? = some (.cells #[.int .i64 0, .int .i64 0, .string ⟨#[]⟩, .slice none 0 0] 24 (0, 0)) := by rw [HB.out.block Bb (by have := HSz.out; omega)]; exact HBx.out.2.1
      obtain ⟨b0, b1, b2, b3⟩ := box4 hbA
      have hl2I : (l2 : Int) ≤ 1000 := by omega
      have hjI12 : (j : Int) ≤ 12 := by omega
      by_cases h1 : j < m
      case neg =>
        have HEx : Hid (tamL ((ks.drop j).map er) d l2 j = ([], l2)) := Lib.hid (by rw [List.drop_of_length_le (by have := HM.out; omega), List.map_nil, tamL_nil])
        have h1I : ¬ (j : Int) < (m : Int) := by omega
        obtain ⟨f0, f1, f2, f3⟩ := kept4 hbA
        go_upto_region 9 with fail
        generalize hW8 : World.setCell _ ⟨Ba, 3, none⟩ _ = w8
        have hb8 : w8.heap[Ba]? = some (.cells #[.int .i64 k, .int .i64 n, .string t, .slice ax j cx] 24 (0, 0)) := by rw [← hW8]; exact Joins.block_setCell (i := 3) hbA _
        have hn8 : ∀ q, q ≠ Ba → w8.heap[q]? = wr.heap[q]? := fun q hq => by rw [← hW8]; exact set_ne hq _
        have hB8 : Below W.heap.size W w8 := by rw [← hW8]; exact (HB1.out.trans (HB.out.mono HB1.out.size)).setCell (p := ⟨Ba, 3, none⟩) (by show W.heap.size ≤ Ba; have := HSz.out; omega) _
        have hz8 : w8.heap.size = wr.heap.size := by rw [← hW8]; simp [World.setCell]
        clear hW8 b0 b1 b2 b3 f0 f1 f2 f3
        obtain ⟨b0, b1, b2, b3⟩ := box4 hb8
        obtain ⟨f0, f1, f2, f3⟩ := kept4 hb8
        go_upto_region 10 with fail
        have ht' : t.extract 0 (min (t.size : Int) 5000).toNat = t.extract 0 (min t.size 5000) := by congr 1; omega
        rw [ht']
        obtain ⟨t', htt⟩ : ∃ s, t.extract 0 (min t.size 5000) = s := ⟨_, rfl⟩
        rw [htt]
        generalize hW9 : World.setCell _ ⟨Ba, 2, none⟩ _ = w9
        have hb9 : w9.heap[Ba]? = some (.cells #[.int .i64 k, .int .i64 n, .string t', .slice ax j cx] 24 (0, 0)) := by rw [← hW9]; exact Joins.block_setCell (i := 2) hb8 _
        have hn9 : ∀ q, q ≠ Ba → w9.heap[q]? = wr.heap[q]? := fun q hq => by rw [← hW9, set_ne hq]; exact hn8 q hq
        have hB9 : Below W.heap.size W w9 := by rw [← hW9]; exact hB8.setCell (p := ⟨Ba, 2, none⟩) (by show W.heap.size ≤ Ba; have := HSz.out; omega) _
        have hz9 : w9.heap.size = wr.heap.size := by rw [← hW9]; simp [World.setCell]; exact hz8
        clear hW9 hb8 hn8 hB8 hz8 b0 b1 b2 b3 f0 f1 f2 f3
        obtain ⟨b0, b1, b2, b3⟩ := box4 hb9
        have hbb : w9.heap[Bb]? = some (.cells #[.int .i64 0, .int .i64 0, .string ⟨#[]⟩, .slice none 0 0] 24 (0, 0)) := (hn9 Bb (by have := HSz.out; omega)).trans hbB
        obtain ⟨e0, e1, e2, e3⟩ := box4 hbb
        obtain ⟨f0, f1, f2, f3⟩ := kept4 hbb
        go_wp2_with fail
        generalize hW10 : World.setCell _ ⟨Bb, 3, none⟩ _ = w10
        have hb10 : w10.heap[Bb]? = some (.cells #[.int .i64 k, .int .i64 n, .string t', .slice ax j cx] 24 (0, 0)) := by rw [← hW10]; exact set4 hbb _ _ _ _
        have hn10 : ∀ q, q ≠ Bb → w10.heap[q]? = w9.heap[q]? := fun q hq => by rw [← hW10]; exact set4_ne hq _ _ _ _
        have hB10 : Below W.heap.size W w10 := by rw [← hW10]; exact set4_below hB9 (by have := HSz.out; omega) _ _ _ _
        have hz10 : w10.heap.size = wr.heap.size := by rw [← hW10]; simp [World.setCell]; exact hz9
        clear hW10 b0 b1 b2 b3 e0 e1 e2 e3 f0 f1 f2 f3
        obtain ⟨c0, c1, c2, c3⟩ := box4 hb10
        have e2 : tamL (ks.map er) d l0 0 = (L.map er, l2) := by rw [HE.out, HEx.out, List.append_nil]
        (try simp only [Exit.inBlock, Exit.then])
        refine bodyPost_ret (v := .tuple #[.agg #[.int .i64 k, .int .i64 n, .string t', .slice ax j cx], .int .i64 (l2 : Int)]) (by rw [results_cell_tmp rfl]; simp [go_sem, c0, c1, c2, c3]) rfl ?_
        refine ⟨.mk k n t' ax cx L, ?_, Lib.hid ⟨?_, ?_⟩, Lib.hid (by first | exact hB10 | exact HSz.out.1 ▸ hB10)⟩
        · simp only [V.k, V.n, V.t, V.a, V.ks, V.cap, HK.out.1, e2]
        · first | (rw [er_mk, e2]; done) | (rw [er_mk, e2]; rfl) | (rw [er_mk, e2, htt]; rfl)
        · exact kids_tree HK.out.2 HK.out.1 HW.out.1 HW.out.2.1 (by rw [← htt, ByteArray.size_extract]; have := HW.out.2.2; omega) (fun q hq => by rw [hn10 q (by have := HSz.out; omega), hn9 q (by have := HSz.out; omega)]) (by omega) _ (by have := HSz.out; omega)
      have h1I : (j : Int) < (m : Int) := by omega
      by_cases h2 : 1 < d
      case neg =>
        have HEx : Hid (tamL ((ks.drop j).map er) d l2 j = ([], l2)) := Lib.hid (tamL_stop _ _ _ _ (by omega))
        have h2I : ¬ (1 : Int) < (d : Int) := by omega
        obtain ⟨f0, f1, f2, f3⟩ := kept4 hbA
        go_upto_region 9 with fail
        generalize hW8 : World.setCell _ ⟨Ba, 3, none⟩ _ = w8
        have hb8 : w8.heap[Ba]? = some (.cells #[.int .i64 k, .int .i64 n, .string t, .slice ax j cx] 24 (0, 0)) := by rw [← hW8]; exact Joins.block_setCell (i := 3) hbA _
        have hn8 : ∀ q, q ≠ Ba → w8.heap[q]? = wr.heap[q]? := fun q hq => by rw [← hW8]; exact set_ne hq _
        have hB8 : Below W.heap.size W w8 := by rw [← hW8]; exact (HB1.out.trans (HB.out.mono HB1.out.size)).setCell (p := ⟨Ba, 3, none⟩) (by show W.heap.size ≤ Ba; have := HSz.out; omega) _
        have hz8 : w8.heap.size = wr.heap.size := by rw [← hW8]; simp [World.setCell]
        clear hW8 b0 b1 b2 b3 f0 f1 f2 f3
        obtain ⟨b0, b1, b2, b3⟩ := box4 hb8
        obtain ⟨f0, f1, f2, f3⟩ := kept4 hb8
        go_upto_region 10 with fail
        have ht' : t.extract 0 (min (t.size : Int) 5000).toNat = t.extract 0 (min t.size 5000) := by congr 1; omega
        rw [ht']
        obtain ⟨t', htt⟩ : ∃ s, t.extract 0 (min t.size 5000) = s := ⟨_, rfl⟩
        rw [htt]
        generalize hW9 : World.setCell _ ⟨Ba, 2, none⟩ _ = w9
        have hb9 : w9.heap[Ba]? = some (.cells #[.int .i64 k, .int .i64 n, .string t', .slice ax j cx] 24 (0, 0)) := by rw [← hW9]; exact Joins.block_setCell (i := 2) hb8 _
        have hn9 : ∀ q, q ≠ Ba → w9.heap[q]? = wr.heap[q]? := fun q hq => by rw [← hW9, set_ne hq]; exact hn8 q hq
        have hB9 : Below W.heap.size W w9 := by rw [← hW9]; exact hB8.setCell (p := ⟨Ba, 2, none⟩) (by show W.heap.size ≤ Ba; have := HSz.out; omega) _
        have hz9 : w9.heap.size = wr.heap.size := by rw [← hW9]; simp [World.setCell]; exact hz8
        clear hW9 hb8 hn8 hB8 hz8 b0 b1 b2 b3 f0 f1 f2 f3
        obtain ⟨b0, b1, b2, b3⟩ := box4 hb9
        have hbb : w9.heap[Bb]? = some (.cells #[.int .i64 0, .int .i64 0, .string ⟨#[]⟩, .slice none 0 0] 24 (0, 0)) := (hn9 Bb (by have := HSz.out; omega)).trans hbB
        obtain ⟨e0, e1, e2, e3⟩ := box4 hbb
        obtain ⟨f0, f1, f2, f3⟩ := kept4 hbb
        go_wp2_with fail
        generalize hW10 : World.setCell _ ⟨Bb, 3, none⟩ _ = w10
        have hb10 : w10.heap[Bb]? = some (.cells #[.int .i64 k, .int .i64 n, .string t', .slice ax j cx] 24 (0, 0)) := by rw [← hW10]; exact set4 hbb _ _ _ _
        have hn10 : ∀ q, q ≠ Bb → w10.heap[q]? = w9.heap[q]? := fun q hq => by rw [← hW10]; exact set4_ne hq _ _ _ _
        have hB10 : Below W.heap.size W w10 := by rw [← hW10]; exact set4_below hB9 (by have := HSz.out; omega) _ _ _ _
        have hz10 : w10.heap.size = wr.heap.size := by rw [← hW10]; simp [World.setCell]; exact hz9
        clear hW10 b0 b1 b2 b3 e0 e1 e2 e3 f0 f1 f2 f3
        obtain ⟨c0, c1, c2, c3⟩ := box4 hb10
        have e2 : tamL (ks.map er) d l0 0 = (L.map er, l2) := by rw [HE.out, HEx.out, List.append_nil]
        (try simp only [Exit.inBlock, Exit.then])
        refine bodyPost_ret (v := .tuple #[.agg #[.int .i64 k, .int .i64 n, .string t', .slice ax j cx], .int .i64 (l2 : Int)]) (by rw [results_cell_tmp rfl]; simp [go_sem, c0, c1, c2, c3]) rfl ?_
        refine ⟨.mk k n t' ax cx L, ?_, Lib.hid ⟨?_, ?_⟩, Lib.hid (by first | exact hB10 | exact HSz.out.1 ▸ hB10)⟩
        · simp only [V.k, V.n, V.t, V.a, V.ks, V.cap, HK.out.1, e2]
        · first | (rw [er_mk, e2]; done) | (rw [er_mk, e2]; rfl) | (rw [er_mk, e2, htt]; rfl)
        · exact kids_tree HK.out.2 HK.out.1 HW.out.1 HW.out.2.1 (by rw [← htt, ByteArray.size_extract]; have := HW.out.2.2; omega) (fun q hq => by rw [hn10 q (by have := HSz.out; omega), hn9 q (by have := HSz.out; omega)]) (by omega) _ (by have := HSz.out; omega)
      have h2I : (1 : Int) < (d : Int) := by omega
      by_cases h3 : 0 < l2
      case neg =>
        have HEx : Hid (tamL ((ks.drop j).map er) d l2 j = ([], l2)) := Lib.hid (tamL_stop _ _ _ _ (by omega))
        have h3I : ¬ (0 : Int) < (l2 : Int) := by omega
        obtain ⟨f0, f1, f2, f3⟩ := kept4 hbA
        go_upto_region 9 with fail
        generalize hW8 : World.setCell _ ⟨Ba, 3, none⟩ _ = w8
        have hb8 : w8.heap[Ba]? = some (.cells #[.int .i64 k, .int .i64 n, .string t, .slice ax j cx] 24 (0, 0)) := by rw [← hW8]; exact Joins.block_setCell (i := 3) hbA _
        have hn8 : ∀ q, q ≠ Ba → w8.heap[q]? = wr.heap[q]? := fun q hq => by rw [← hW8]; exact set_ne hq _
        have hB8 : Below W.heap.size W w8 := by rw [← hW8]; exact (HB1.out.trans (HB.out.mono HB1.out.size)).setCell (p := ⟨Ba, 3, none⟩) (by show W.heap.size ≤ Ba; have := HSz.out; omega) _
        have hz8 : w8.heap.size = wr.heap.size := by rw [← hW8]; simp [World.setCell]
        clear hW8 b0 b1 b2 b3 f0 f1 f2 f3
        obtain ⟨b0, b1, b2, b3⟩ := box4 hb8
        obtain ⟨f0, f1, f2, f3⟩ := kept4 hb8
        go_upto_region 10 with fail
        have ht' : t.extract 0 (min (t.size : Int) 5000).toNat = t.extract 0 (min t.size 5000) := by congr 1; omega
        rw [ht']
        obtain ⟨t', htt⟩ : ∃ s, t.extract 0 (min t.size 5000) = s := ⟨_, rfl⟩
        rw [htt]
        generalize hW9 : World.setCell _ ⟨Ba, 2, none⟩ _ = w9
        have hb9 : w9.heap[Ba]? = some (.cells #[.int .i64 k, .int .i64 n, .string t', .slice ax j cx] 24 (0, 0)) := by rw [← hW9]; exact Joins.block_setCell (i := 2) hb8 _
        have hn9 : ∀ q, q ≠ Ba → w9.heap[q]? = wr.heap[q]? := fun q hq => by rw [← hW9, set_ne hq]; exact hn8 q hq
        have hB9 : Below W.heap.size W w9 := by rw [← hW9]; exact hB8.setCell (p := ⟨Ba, 2, none⟩) (by show W.heap.size ≤ Ba; have := HSz.out; omega) _
        have hz9 : w9.heap.size = wr.heap.size := by rw [← hW9]; simp [World.setCell]; exact hz8
        clear hW9 hb8 hn8 hB8 hz8 b0 b1 b2 b3 f0 f1 f2 f3
        obtain ⟨b0, b1, b2, b3⟩ := box4 hb9
        have hbb : w9.heap[Bb]? = some (.cells #[.int .i64 0, .int .i64 0, .string ⟨#[]⟩, .slice none 0 0] 24 (0, 0)) := (hn9 Bb (by have := HSz.out; omega)).trans hbB
        obtain ⟨e0, e1, e2, e3⟩ := box4 hbb
        obtain ⟨f0, f1, f2, f3⟩ := kept4 hbb
        go_wp2_with fail
        generalize hW10 : World.setCell _ ⟨Bb, 3, none⟩ _ = w10
        have hb10 : w10.heap[Bb]? = some (.cells #[.int .i64 k, .int .i64 n, .string t', .slice ax j cx] 24 (0, 0)) := by rw [← hW10]; exact set4 hbb _ _ _ _
        have hn10 : ∀ q, q ≠ Bb → w10.heap[q]? = w9.heap[q]? := fun q hq => by rw [← hW10]; exact set4_ne hq _ _ _ _
        have hB10 : Below W.heap.size W w10 := by rw [← hW10]; exact set4_below hB9 (by have := HSz.out; omega) _ _ _ _
        have hz10 : w10.heap.size = wr.heap.size := by rw [← hW10]; simp [World.setCell]; exact hz9
        clear hW10 b0 b1 b2 b3 e0 e1 e2 e3 f0 f1 f2 f3
        obtain ⟨c0, c1, c2, c3⟩ := box4 hb10
        have e2 : tamL (ks.map er) d l0 0 = (L.map er, l2) := by rw [HE.out, HEx.out, List.append_nil]
        (try simp only [Exit.inBlock, Exit.then])
        refine bodyPost_ret (v := .tuple #[.agg #[.int .i64 k, .int .i64 n, .string t', .slice ax j cx], .int .i64 (l2 : Int)]) (by rw [results_cell_tmp rfl]; simp [go_sem, c0, c1, c2, c3]) rfl ?_
        refine ⟨.mk k n t' ax cx L, ?_, Lib.hid ⟨?_, ?_⟩, Lib.hid (by first | exact hB10 | exact HSz.out.1 ▸ hB10)⟩
        · simp only [V.k, V.n, V.t, V.a, V.ks, V.cap, HK.out.1, e2]
        · first | (rw [er_mk, e2]; done) | (rw [er_mk, e2]; rfl) | (rw [er_mk, e2, htt]; rfl)
        · exact kids_tree HK.out.2 HK.out.1 HW.out.1 HW.out.2.1 (by rw [← htt, ByteArray.size_extract]; have := HW.out.2.2; omega) (fun q hq => by rw [hn10 q (by have := HSz.out; omega), hn9 q (by have := HSz.out; omega)]) (by omega) _ (by have := HSz.out; omega)
      have h3I : (0 : Int) < (l2 : Int) := by omega
      by_cases h4 : j < 12
      case neg =>
        have HEx : Hid (tamL ((ks.drop j).map er) d l2 j = ([], l2)) := Lib.hid (tamL_stop _ _ _ _ (by omega))
        have h4I : ¬ (j : Int) < 12 := by omega
        obtain ⟨f0, f1, f2, f3⟩ := kept4 hbA
        go_upto_region 9 with fail
        generalize hW8 : World.setCell _ ⟨Ba, 3, none⟩ _ = w8
        have hb8 : w8.heap[Ba]? = some (.cells #[.int .i64 k, .int .i64 n, .string t, .slice ax j cx] 24 (0, 0)) := by rw [← hW8]; exact Joins.block_setCell (i := 3) hbA _
        have hn8 : ∀ q, q ≠ Ba → w8.heap[q]? = wr.heap[q]? := fun q hq => by rw [← hW8]; exact set_ne hq _
        have hB8 : Below W.heap.size W w8 := by rw [← hW8]; exact (HB1.out.trans (HB.out.mono HB1.out.size)).setCell (p := ⟨Ba, 3, none⟩) (by show W.heap.size ≤ Ba; have := HSz.out; omega) _
        have hz8 : w8.heap.size = wr.heap.size := by rw [← hW8]; simp [World.setCell]
        clear hW8 b0 b1 b2 b3 f0 f1 f2 f3
        obtain ⟨b0, b1, b2, b3⟩ := box4 hb8
        obtain ⟨f0, f1, f2, f3⟩ := kept4 hb8
        go_upto_region 10 with fail
        have ht' : t.extract 0 (min (t.size : Int) 5000).toNat = t.extract 0 (min t.size 5000) := by congr 1; omega
        rw [ht']
        obtain ⟨t', htt⟩ : ∃ s, t.extract 0 (min t.size 5000) = s := ⟨_, rfl⟩
        rw [htt]
        generalize hW9 : World.setCell _ ⟨Ba, 2, none⟩ _ = w9
        have hb9 : w9.heap[Ba]? = some (.cells #[.int .i64 k, .int .i64 n, .string t', .slice ax j cx] 24 (0, 0)) := by rw [← hW9]; exact Joins.block_setCell (i := 2) hb8 _
        have hn9 : ∀ q, q ≠ Ba → w9.heap[q]? = wr.heap[q]? := fun q hq => by rw [← hW9, set_ne hq]; exact hn8 q hq
        have hB9 : Below W.heap.size W w9 := by rw [← hW9]; exact hB8.setCell (p := ⟨Ba, 2, none⟩) (by show W.heap.size ≤ Ba; have := HSz.out; omega) _
        have hz9 : w9.heap.size = wr.heap.size := by rw [← hW9]; simp [World.setCell]; exact hz8
        clear hW9 hb8 hn8 hB8 hz8 b0 b1 b2 b3 f0 f1 f2 f3
        obtain ⟨b0, b1, b2, b3⟩ := box4 hb9
        have hbb : w9.heap[Bb]? = some (.cells #[.int .i64 0, .int .i64 0, .string ⟨#[]⟩, .slice none 0 0] 24 (0, 0)) := (hn9 Bb (by have := HSz.out; omega)).trans hbB
        obtain ⟨e0, e1, e2, e3⟩ := box4 hbb
        obtain ⟨f0, f1, f2, f3⟩ := kept4 hbb
        go_wp2_with fail
        generalize hW10 : World.setCell _ ⟨Bb, 3, none⟩ _ = w10
        have hb10 : w10.heap[Bb]? = some (.cells #[.int .i64 k, .int .i64 n, .string t', .slice ax j cx] 24 (0, 0)) := by rw [← hW10]; exact set4 hbb _ _ _ _
        have hn10 : ∀ q, q ≠ Bb → w10.heap[q]? = w9.heap[q]? := fun q hq => by rw [← hW10]; exact set4_ne hq _ _ _ _
        have hB10 : Below W.heap.size W w10 := by rw [← hW10]; exact set4_below hB9 (by have := HSz.out; omega) _ _ _ _
        have hz10 : w10.heap.size = wr.heap.size := by rw [← hW10]; simp [World.setCell]; exact hz9
        clear hW10 b0 b1 b2 b3 e0 e1 e2 e3 f0 f1 f2 f3
        obtain ⟨c0, c1, c2, c3⟩ := box4 hb10
        have e2 : tamL (ks.map er) d l0 0 = (L.map er, l2) := by rw [HE.out, HEx.out, List.append_nil]
        (try simp only [Exit.inBlock, Exit.then])
        refine bodyPost_ret (v := .tuple #[.agg #[.int .i64 k, .int .i64 n, .string t', .slice ax j cx], .int .i64 (l2 : Int)]) (by rw [results_cell_tmp rfl]; simp [go_sem, c0, c1, c2, c3]) rfl ?_
        refine ⟨.mk k n t' ax cx L, ?_, Lib.hid ⟨?_, ?_⟩, Lib.hid (by first | exact hB10 | exact HSz.out.1 ▸ hB10)⟩
        · simp only [V.k, V.n, V.t, V.a, V.ks, V.cap, HK.out.1, e2]
        · first | (rw [er_mk, e2]; done) | (rw [er_mk, e2]; rfl) | (rw [er_mk, e2, htt]; rfl)
        · exact kids_tree HK.out.2 HK.out.1 HW.out.1 HW.out.2.1 (by rw [← htt, ByteArray.size_extract]; have := HW.out.2.2; omega) (fun q hq => by rw [hn10 q (by have := HSz.out; omega), hn9 q (by have := HSz.out; omega)]) (by omega) _ (by have := HSz.out; omega)
      have h4I : (j : Int) < 12 := by omega
      have hlk : j < ks.length := by have := HM.out; omega
      have hne : ks ≠ [] := fun e => by rw [e] at hlk; simp at hlk
      obtain rfl : ap = some ⟨g, o, none⟩ := HR.out.1 hne
      obtain ⟨hat, hli⟩ : At4 W g (o + 4 * j) ks[j] ∧ Lies (· < n₀) W ks[j] := HR.out.2.2.get j hlk
      have hmem : ks[j] ∈ ks := List.getElem_mem hlk
      have hdr : ks.drop j = ks[j] :: ks.drop (j + 1) := List.drop_eq_getElem_cons hlk
      have hb0 : Below n₀ W wr := (HB1.out.mono HN.out).trans (HB.out.mono (by have := HN.out; have := HB1.out.size; omega))
      obtain ⟨d0, d1, d2, d3⟩ := hat.same (hb0.block g (HR.out.2.1 hne))
      obtain ⟨x, hx⟩ : ∃ x, ks[j] = x := ⟨_, rfl⟩
      rw [hx] at hli hmem hdr d0 d1 d2 d3
      rw [show o + 4 * j = o + j * 4 by omega] at d0 d1 d2 d3
      have hC := HIh.out x hmem (d - 1) l2 wr (hli.below hb0) (Nat.le_trans (Nat.le_trans HN.out HB1.out.size) HB.out.size) (by omega) (by omega) (by omega)
      have hd1 : ((d - 1 : Nat) : Int) = (d : Int) - 1 := by omega
      unfold V.val at hC
      rw [hd1] at hC
      have hle := tamT_le (er x) (d - 1) l2 (by omega)
      obtain ⟨l3, hl3⟩ : ∃ l3, (tamT (er x) (d - 1) l2).2 = l3 := ⟨_, rfl⟩
      rw [hl3] at hC hle
      have HC := Lib.hid hC
      have hl3b : l3 ≤ 1000 := by omega
      have HS : Hid (∀ y : V, er y = (tamT (er x) (d - 1) l2).1 → tamL (ks.map er) d l0 0 = ((L ++ [y]).map er ++ (tamL ((ks.drop (j + 1)).map er) d l3 (j + 1)).1, (tamL ((ks.drop (j + 1)).map er) d l3 (j + 1)).2)) := Lib.hid fun y hy => by
        have e := HE.out
        rw [hdr, List.map_cons, tamL_cons, if_pos ⟨h2, h3, h4⟩, hl3, ← hy] at e
        rw [e, List.map_append, List.map_cons, List.map_nil, List.append_assoc]
        rfl
      clear hlk hne hat hli hmem hdr hb0 hx hC hle hl3 HE hbA hbB
      go_wp2_with fail
      refine HC.out.mono ?_
      rintro e w5 ⟨y, rfl, hy, hb5⟩
      go_upto_region 7 with fail
      have hbx : (w5.alloc (.cells #[.int .i64 y.k, .int .i64 y.n, .string y.t, .slice y.a y.ks.length y.cap] 24)).heap[w5.heap.size]? = some (.cells #[.int .i64 y.k, .int .i64 y.n, .string y.t, .slice y.a y.ks.length y.cap] 24 (0, 0)) := World.alloc_heap_new w5 _
      have hb6 : Below w5.heap.size w5 (w5.alloc (.cells #[.int .i64 y.k, .int .i64 y.n, .string y.t, .slice y.a y.ks.length y.cap] 24)) := (Below.refl _ _).alloc (Nat.le_refl _) _
      generalize w5.alloc (.cells #[.int .i64 y.k, .int .i64 y.n, .string y.t, .slice y.a y.ks.length y.cap] 24) = W6 at *
      obtain ⟨q0, q1, q2, q3⟩ := box4 hbx
      have hB15 : W1.heap.size ≤ W6.heap.size := by have := HB.out.size; have := hb5.out.size; have := hb6.size; omega
      obtain ⟨v', w8, hrun0, ho8, hb8, hz8, hs8, hw8⟩ := app_val2 (ownV_later (ownV_later HK.out.2.1 hb5.out) hb6) hB15 y (by rw [HK.out.1]; omega) 22
      have hl8 : (L ++ [y]).length = j + 1 := by rw [List.length_append, HK.out.1]; rfl
      obtain ⟨a8, c8, rfl⟩ := ownV_form ho8
      rw [hl8] at hrun0 ho8 hw8
      have hrun : (Builtin.append_ #[22, 22] 22 #[.slice ax j cx, .slice (some ⟨W6.heap.size, 0, none⟩) 1 1]).run Tryd.prog (W6.alloc (.cells #[.int .i64 y.k, .int .i64 y.n, .string y.t, .slice y.a y.ks.length y.cap] 24)) = .ok (.slice a8 (j + 1) c8) w8 := hrun0
      have HK8 : Hid ((L ++ [y]).length = j + 1 ∧ KidsAt W1.heap.size (.slice a8 (j + 1) c8) (L ++ [y]) w8) := Lib.hid ⟨hl8, kids_more HK.out.2 HB.out.size hb5.out hy.out.2 hb6 ho8 hz8 hs8 hw8⟩
      have HE8 := Lib.hid (HS.out y hy.out.1)
      have HB8 := Lib.hid (show Below W1.heap.size W1 w8 from ((HB.out.trans (hb5.out.mono HB.out.size)).trans (hb6.mono (by have := HB.out.size; have := hb5.out.size; omega))).trans hb8)
      clear hrun0 ho8 hb8 hz8 hs8 hw8 hl8 hbx hb6 hB15 hy hb5 HC HS HK HB b0 b1 b2 b3 d0 d1 d2 d3
      go_wp2_with (at_builtin; refine Lib.wpList_append_run _ rfl _ _ _ _ rfl _ _ rfl rfl _ _ hrun ?_)
      go_roundw
      case rel => exact ⟨j + 1, l3, a8, c8, L ++ [y], by first | rfl | go_num, rfl, by go_num, by omega, by omega, by omega, HE8, HK8, HB8⟩
      case measure => simp [intOf]; omega
end Go.Proofs.YtpacjcgpeomnaaaDoor
