/- fresh, logs. -/
import Derived.Test.YtfhgdcljhncjmaaDoorWalZB
namespace Go.Proofs.YtfhgdcljhncjmaaDoor
open Go.ChangeShapes Go.WideShapes Go.ChangeAt Go.RowKit
set_option linter.unusedVariables false
set_option maxRecDepth 20000

theorem now_ls {s : Dst} (h : s.W = []) : s.now = s.ls := by unfold Dst.now; rw [h]; rfl
theorem lg_append_q {B : Nat} {w : World} {g l L : Nat} {s : Dst} {f en : Nat} {ag : Int} {hd : Nat} {bs : List (List Nat)} {p k : Nat} (h : Lg B w g l L s f en ag hd bs p k) (hq : Quiet s) (hk : k ≤ 40000) (b : List Nat) (n cap : Nat) (sp : Option Addr) (hn : b.length = n) (hn2 : n ≤ 100000) (hlc : n ≤ cap) (hb : ∀ x ∈ b, x < 256) (hS : Row8 B w sp b) (hfit : p + need n ≤ en) :
    Calls Tryd.prog 12 #[.pointer (some ⟨l, 0, none⟩), .slice sp n cap] w fun e w' => e = .returned (.int .i64 0) ∧ Hid (∃ s', Lg B w' g l L s' f en ag hd (bs ++ [b]) (p + need n) (k + need n + 3) ∧ Quiet s') ∧ Hid (Below B w w') := by
  refine (lg_append h hk b n cap sp hn hn2 hlc hb hS hfit).mono ?_
  rintro e w' ⟨a0, a1, a2⟩
  rcases a0 with ⟨rfl, s', h1, h2, h3⟩ | ⟨_, h2, _⟩
  · exact ⟨rfl, Lib.hid ⟨s', h1.out, h3 hq⟩, a1⟩
  · exact absurd hq h2
theorem lg_trunc_q {B : Nat} {w : World} {g l L : Nat} {s : Dst} {f en : Nat} {ag : Int} {hd : Nat} {bs : List (List Nat)} {p k : Nat} (h : Lg B w g l L s f en ag hd bs p k) (hq : Quiet s) (hk : k ≤ 40000) (hag : ag < 1000000) :
    Calls Tryd.prog 13 #[.pointer (some ⟨l, 0, none⟩)] w fun e w' => e = .returned (.int .i64 0) ∧ Hid (∃ s', Lg B w' g l L s' f en (ag + 1) (1 - hd) [] (f + 2) (k + 2) ∧ Quiet s') ∧ Hid (Below B w w') := by
  refine (lg_trunc h hk hag).mono ?_
  rintro e w' ⟨a0, a1, a2⟩
  rcases a0 with ⟨rfl, s', h1, h2, h3⟩ | ⟨_, h2, _⟩
  · exact ⟨rfl, Lib.hid ⟨s', h1.out, h3 hq⟩, a1⟩
  · exact absurd hq h2
/-- a log, opened anew -/
theorem lg_again {B : Nat} {w : World} {g l L : Nat} {s : Dst} {f ct : Nat} {ag : Int} {hd : Nat} {bs : List (List Nat)} {p k : Nat} (h : Lg B w g l L s f (f + ct) ag hd bs p k) (hq : Quiet s) (h3 : 3 ≤ ct) (a b : Int) (ha : (f : Int) = a) (hb : (ct : Int) = b) :
    Calls Tryd.prog 18 #[.pointer (some ⟨g, 0, none⟩), .int .i64 a, .int .i64 b] w fun e w' => ∃ (l' : Nat) (rs : Value), e = .returned (.tuple #[.pointer (some ⟨l', 0, none⟩), rs, .int .i64 0]) ∧ Hid (Lg B w' g l' L s f (f + ct) ag hd bs p k) ∧ Hid (RecsAt (w.heap.size + 1) l' w' rs bs) ∧ Hid (Below w.heap.size w w') := by
  subst ha hb
  have hnow := now_ls h.w0
  refine (lg_open (da_quiet h.da hq) (by rw [hnow]; exact h.inv) h3 h.enL.1 h.enL.2 h.gb h.tab).mono ?_
  rintro e w' ⟨l', rs, rfl, a1, a2, a3, a4⟩
  exact ⟨l', rs, rfl, Lib.hid ⟨da_below h.da a4.out, h.w0, h.inv, a2.out, Nat.le_trans h.size a1, Fc.tab_later h.tab a4.out, h.enL, h.gb⟩, a3, a4⟩
theorem recs_none {B lo : Nat} {w : World} {v : Value} (h : RecsAt B lo w v []) : v = .slice none 0 0 := by
  obtain ⟨vals, _, h2, _⟩ := h
  exact h2 rfl
theorem recs_cell {B lo : Nat} {w : World} {v : Value} {bs : List (List Nat)} (h : RecsAt B lo w v bs) (n : Nat) (hn : bs.length = n) (h0 : 0 < n) : ∃ gR cR, v = .slice (some ⟨gR, 0, none⟩) n cR ∧ ∀ (i : Nat) b, bs[i]? = some b → ∃ gr cr, w.cell? ⟨gR, i, none⟩ = some (.slice (some ⟨gr, 0, none⟩) b.length cr) ∧ Fc.Src w (some ⟨gr, 0, none⟩) b := by
  obtain ⟨vals, h1, _, h3, h4⟩ := h
  subst hn
  obtain ⟨gR, cR, rfl⟩ := Fk.own_shape h1 h0
  refine ⟨gR, cR, rfl, fun i b hi => ?_⟩
  obtain ⟨gr, cr, a1, _, a3⟩ := h4 i b hi
  have hlt := (List.getElem?_eq_some_iff.1 hi).1
  exact ⟨gr, cr, by rw [World.ownsRow.cellAt h1 i (by omega), a1], a3⟩
theorem row_one (B : Nat) (W : World) (x : Nat) (fr : Nat × Nat) : Row8 B (W.alloc (.cells #[.int .u8 (x : Int)] 5 fr)) (some ⟨W.heap.size, 0, none⟩) [x] :=
  fun _ => ⟨W.heap.size, 0, rfl, fun i hi => by
    obtain rfl : i = 0 := by simp at hi; omega
    simp [World.cell?, Fc.heap_alloc], .inl ⟨_, _, al_new _ _ _ rfl⟩⟩
theorem row_nil (B : Nat) (W : World) (sp : Option Addr) : Row8 B W sp [] := fun h => by simp at h
/-- bytes that were handed in -/
theorem row_came {w : World} {a0 : Option Addr} {len0 cap0 : Nat} {z0 : List Int} (w0 : Fc.Came w a0 len0 cap0 z0) (m : Nat) (hm : m ≤ len0) : ∃ L : List Nat, L.length = m ∧ (∀ b ∈ L, b < 256) ∧ Row8 w.heap.size w a0 L := by
  obtain ⟨L, h1, h2, h3⟩ := Fc.came_src w0 m hm
  refine ⟨L, h1, h2, fun hp => ?_⟩
  obtain ⟨g, o, e, hc⟩ := h3 hp
  exact ⟨g, o, e, hc, .inr (World.block_lt_of_cell? w _ (hc 0 hp))⟩
set_option maxHeartbeats 1000000 in
theorem fresh_any (w : World) (hG : 0 < w.heap.size) (ht : Hid (Fc.Tab w)) :
    Calls Tryd.prog 16 #[] w fun e w' => ∃ g l, e = .returned (.tuple #[.pointer (some ⟨g, 0, none⟩), .pointer (some ⟨l, 0, none⟩), .bool true]) ∧ Hid (∃ s, Lg w.heap.size w' g l 18 s 2 16 1 0 [] 4 20 ∧ Quiet s) ∧ Hid (Below w.heap.size w w') := by
  have HNew := Lib.hid (Fk.new_any 18 (by decide) (by decide) w)
  have HFm : Hid (∀ W g, Dq w.heap.size W g 18 (List.replicate 18 Fk.zeros) 0 → Fc.Tab W → Calls Tryd.prog 24 #[.pointer (some ⟨g, 0, none⟩), .int .i64 2, .int .i64 14] W fun e w' => e = .returned (.int .i64 0) ∧ (∃ s', Hid (Da w.heap.size w' g 18 s' 17) ∧ Quiet s' ∧ s'.W = [] ∧ s'.ls = fmt (List.replicate 18 Fk.zeros) 2 14) ∧ Below w.heap.size W w' ∧ KeepT g W w' ∧ Fc.Tab w') := Lib.hid fun W g hD hT => format_q hD 2 14 (by decide) (by decide) (by decide) (by decide) hG (Lib.hid hT)
  have hfull : Full (List.replicate 18 Fk.zeros) := fun s hs => by
    rw [(List.mem_replicate.1 hs).2, Fk.zeros_sec]
    exact Fk.secS_size 0
  have HInv := Lib.hid (LInv.fmt (ns := List.replicate 18 Fk.zeros) hfull 2 14 (by decide) (by simp))
  have HG := Lib.hid hG
  clear hfull hG
  go_enter Tryd.func16, Tryd.ntmps16
  go_wp2_with fail
  refine HNew.out.mono ?_
  rintro e w1 ⟨g, gn, gl, cn, cl, rfl, hD, hb1⟩
  have hDq : Dq w.heap.size w1 g 18 (List.replicate 18 Fk.zeros) 0 := ⟨gn, gl, cn, cl, _, List.replicate 18 Fk.zeros, [], 0, by
    have e1 : Fk.strs (List.replicate 18 Fk.zeros) = List.replicate 18 (Value.string Fk.zeros) := by unfold Fk.strs; rw [List.map_replicate]
    rw [e1]
    exact hD, rfl, by simp, by simp, by decide, by decide⟩
  have HF := Lib.hid (HFm.out w1 g hDq (Fc.tab_later ht.out hb1))
  have HB1 := Lib.hid hb1
  clear hD hb1 hDq
  go_wp2_with fail
  refine HF.out.mono ?_
  rintro e w2 ⟨rfl, hs, hb2, _, hT2⟩
  have HS2 := Lib.hid hs
  have HB2 := Lib.hid (HB1.out.trans hb2)
  have HT2 := Lib.hid hT2
  have HOp : Hid (Calls Tryd.prog 18 #[.pointer (some ⟨g, 0, none⟩), .int .i64 2, .int .i64 14] w2 fun e w' => ∃ (l' : Nat) (rs : Value), e = .returned (.tuple #[.pointer (some ⟨l', 0, none⟩), rs, .int .i64 0]) ∧ w2.heap.size ≤ l' ∧ Hid (LogAt w' l' g 2 16 4 0 1 0 0) ∧ Hid (RecsAt (w2.heap.size + 1) l' w' rs []) ∧ Hid (Below w2.heap.size w2 w')) := Lib.hid (by
    obtain ⟨s', d1, d2, d3, d4⟩ := HS2.out
    have hnow := now_ls d3
    exact lg_open (da_quiet d1.out d2) (by rw [hnow, d4]; exact HInv.out) (by decide) (by decide) (by decide) HG.out HT2.out)
  clear hs hb2 hT2
  go_wp2_with fail
  refine HOp.out.mono ?_
  rintro e w3 ⟨l', rs, rfl, hl', hlg, hrs, hb3⟩
  have hrn := recs_none hrs.out
  subst hrn
  have HRes : Hid (∃ s, Lg w.heap.size w3 g l' 18 s 2 16 1 0 [] 4 20 ∧ Quiet s) := Lib.hid (by
    obtain ⟨s', d1, d2, d3, d4⟩ := HS2.out
    exact ⟨s', ⟨da_mono (da_below d1.out hb3.out) (by decide), d3, (by rw [d4]; exact HInv.out), hlg.out, Nat.le_trans HB2.out.size hl', Fc.tab_later HT2.out hb3.out, ⟨by decide, by decide⟩, HG.out⟩, d2⟩)
  have HB3 := Lib.hid (HB2.out.trans (hb3.out.mono HB2.out.size))
  clear hl' hlg hrs hb3
  go_wp2_with fail
  go_ret3
  exact ⟨g, l', rfl, HRes, HB3⟩
set_option maxHeartbeats 2000000 in
theorem logs_any (w : World) (hG : 0 < w.heap.size) (ht : Hid (Fc.Tab w)) :
    Calls Tryd.prog 10 #[] w fun e w' => e = .returned (.bool true) ∧ Hid (Below w.heap.size w w') := by
  have HFr := Lib.hid (fresh_any w hG ht)
  have esv : Fc.sv [97] = ⟨#[97]⟩ := by decide +kernel
  have kc := fun (w : World) (C : Array Value) (n c : Nat) => Lib.run_convert_bytes_const (P := Tryd.prog) w 34 5 C n c Tryd.underlying34 Tryd.underlying5
  go_enter Tryd.func10, Tryd.ntmps10
  go_wp2_with fail
  refine HFr.out.mono ?_
  rintro e w1 ⟨g, l, rfl, hL1, hb1⟩
  have hA : Below w1.heap.size w1 (w1.alloc (.cells #[.int .u8 97] 5 (1, 2))) := (Below.refl _ _).alloc (Nat.le_refl _) _
  have HAp : Hid (Calls Tryd.prog 12 #[.pointer (some ⟨l, 0, none⟩), .slice (some ⟨w1.heap.size, 0, none⟩) 1 1] (w1.alloc (.cells #[.int .u8 97] 5 (1, 2))) fun e w' => e = .returned (.int .i64 0) ∧ Hid (∃ s', Lg w.heap.size w' g l 18 s' 2 16 1 0 [[97]] 6 25 ∧ Quiet s') ∧ Hid (Below w.heap.size (w1.alloc (.cells #[.int .u8 97] 5 (1, 2))) w')) := Lib.hid (by
    obtain ⟨s, h1, h2⟩ := hL1.out
    exact lg_append_q (h1.below hA) h2 (by decide) [97] 1 1 (some ⟨w1.heap.size, 0, none⟩) rfl (by decide) (by decide) (by simp) (row_one _ _ 97 _) (by decide))
  have HBA := Lib.hid (hb1.out.trans (hA.mono hb1.out.size))
  clear hA
  go_wp2_with fail
  refine HAp.out.mono ?_
  rintro e w2 ⟨rfl, hL2, hb2⟩
  have HB2 := Lib.hid (HBA.out.trans hb2.out)
  have HAq : Hid (Calls Tryd.prog 12 #[.pointer (some ⟨l, 0, none⟩), .slice none 0 0] w2 fun e w' => e = .returned (.int .i64 0) ∧ Hid (∃ s', Lg w.heap.size w' g l 18 s' 2 16 1 0 [[97], []] 7 29 ∧ Quiet s') ∧ Hid (Below w.heap.size w2 w')) := Lib.hid (by
    obtain ⟨s, h1, h2⟩ := hL2.out
    exact lg_append_q h1 h2 (by decide) [] 0 0 none rfl (by decide) (by decide) (by simp) (row_nil _ _ _) (by decide))
  clear hb2
  go_wp2_with fail
  refine HAq.out.mono ?_
  rintro e w3 ⟨rfl, hL3, hb3⟩
  have HB3 := Lib.hid (HB2.out.trans hb3.out)
  have HOp : Hid (Calls Tryd.prog 18 #[.pointer (some ⟨g, 0, none⟩), .int .i64 2, .int .i64 14] w3 fun e w' => ∃ (l' : Nat) (rs : Value), e = .returned (.tuple #[.pointer (some ⟨l', 0, none⟩), rs, .int .i64 0]) ∧ Hid (RecsAt (w3.heap.size + 1) l' w' rs [[97], []]) ∧ Hid (Below w3.heap.size w3 w')) := Lib.hid (by
    obtain ⟨s, h1, h2⟩ := hL3.out
    refine (lg_again (ct := 14) h1 h2 (by decide) 2 14 rfl rfl).mono ?_
    rintro e w' ⟨l', rs, rfl, a1, a2, a3⟩
    exact ⟨l', rs, rfl, a2, a3⟩)
  clear hb3
  go_wp2_with fail
  refine HOp.out.mono ?_
  rintro e w4 ⟨l', rs, rfl, hR, hb4⟩
  obtain ⟨gR, cR, rfl, hc⟩ := recs_cell hR.out 2 rfl (by decide)
  obtain ⟨g0, c0, hc0, hs0⟩ := hc 0 [97] rfl
  obtain ⟨g1, c1, hc1, hs1⟩ := hc 1 [] rfl
  have hcv := Fc.src_conv hs0 c0 (by decide)
  rw [esv] at hcv
  simp only [List.length_cons, List.length_nil, Nat.zero_add] at hc0 hc1 hcv
  have HB4 := Lib.hid (HB3.out.trans (hb4.out.mono HB3.out.size))
  clear hc hs0 hs1 hR hb4 esv
  go_wp2_with fail
  go_ret
  exact ⟨rfl, HB4⟩
end Go.Proofs.YtfhgdcljhncjmaaDoor
