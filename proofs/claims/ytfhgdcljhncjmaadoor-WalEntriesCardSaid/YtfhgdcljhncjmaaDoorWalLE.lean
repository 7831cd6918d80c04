/- WalEntries. -/
import Derived.Test.YtfhgdcljhncjmaaDoorWalSE
namespace Go.Proofs.YtfhgdcljhncjmaaDoor
open Go.ChangeShapes Go.WideShapes Go.ChangeAt Go.RowKit
set_option linter.unusedVariables false
set_option maxRecDepth 20000

/-- a log that nobody armed: its age, how many sectors are left, its records -/
def Sq (B : Nat) (w : World) (g l ag left : Nat) (bs : List (List Nat)) (K : Nat) : Prop := ∃ s hd p k, Lg B w g l 18 s 2 16 (ag : Int) hd bs p k ∧ Quiet s ∧ p + left = 16 ∧ k ≤ K
section
variable {B : Nat} {w w' : World} {g l ag left K : Nat} {bs : List (List Nat)}
theorem sq_below (h : Sq B w g l ag left bs K) (hb : Below w.heap.size w w') : Sq B w' g l ag left bs K := by
  obtain ⟨s, hd, p, k, h1, h2⟩ := h
  exact ⟨s, hd, p, k, h1.below hb, h2⟩
theorem sq_mono {K' : Nat} (h : Sq B w g l ag left bs K) (hK : K ≤ K') : Sq B w g l ag left bs K' := by
  obtain ⟨s, hd, p, k, h1, h2, h3, h4⟩ := h
  exact ⟨s, hd, p, k, h1, h2, h3, by omega⟩
theorem sq_side {row : Option Nat} (h : Sq B w g l ag left bs K) (ho : Fk.Only (fun q => row = some q) w w') (hs : Side B g w row) : Sq B w' g l ag left bs K := by
  obtain ⟨s, hd, p, k, h1, h2⟩ := h
  exact ⟨s, hd, p, k, lg_side h1 ho hs, h2⟩
theorem sq_ar (h : Sq B w g l ag left bs K) : Ar (· = bs) B w g l ag K := by
  obtain ⟨s, hd, p, k, h1, h2, h3, h4⟩ := h
  exact ⟨s, _, hd, bs, p, k, h1, rfl, Int.le_refl _, h4⟩
theorem sq_da (h : Sq B w g l ag left bs K) : ∃ s k, Da B w g 18 s k := by
  obtain ⟨s, hd, p, k, h1, _⟩ := h
  exact ⟨s, k, h1.da⟩
theorem sq_room (h : Sq B w g l ag left bs K) (r : Int) (hr : r = if left = 0 then -1 else ((left : Int) - 1) * 511) : Calls Tryd.prog 15 #[.pointer (some ⟨l, 0, none⟩)] w fun e w' => e = .returned (.int .i64 r) ∧ Hid (Below w.heap.size w w') := by
  obtain ⟨s, hd, p, k, h1, h2, h3, h4⟩ := h
  have hge := h1.inv.ge
  refine (room_any p 16 hge.2 (by decide) h1.log).mono ?_
  rintro e w' ⟨rfl, h5⟩
  refine ⟨?_, Lib.hid h5⟩
  have e1 : roomI p 16 = r := by
    rw [hr]
    unfold roomI
    by_cases h0 : left = 0
    · rw [if_pos h0, if_pos (by omega)]
    · rw [if_neg h0, if_neg (by omega)]
      have : ((16 : Nat) : Int) - (p : Int) - 1 = (left : Int) - 1 := by omega
      rw [this]
      omega
  rw [e1]
theorem sq_age (h : Sq B w g l ag left bs K) : Calls Tryd.prog 14 #[.pointer (some ⟨l, 0, none⟩)] w fun e w' => e = .returned (.int .i64 (ag : Int)) ∧ w = w' := by
  obtain ⟨s, hd, p, k, h1, _⟩ := h
  exact age_any h1.log
theorem sq_append (h : Sq B w g l ag left bs K) (hK : K ≤ 30000) (b : List Nat) (n cap : Nat) (sp : Option Addr) (hn : b.length = n) (hn2 : n ≤ 4000) (hlc : n ≤ cap) (hb : ∀ x ∈ b, x < 256) (hS : Row8 B w sp b) (hfit : need n ≤ left) :
    Calls Tryd.prog 12 #[.pointer (some ⟨l, 0, none⟩), .slice sp n cap] w fun e w' => e = .returned (.int .i64 0) ∧ Hid (Sq B w' g l ag (left - need n) (bs ++ [b]) (K + 20)) ∧ Hid (Below B w w') ∧ Hid (KeepE g l w w') := by
  obtain ⟨s, hd, p, k, h1, h2, h3, h4⟩ := h
  have hnd : need n ≤ 12 := by unfold need; omega
  refine (lg_append h1 (by omega) b n cap sp hn (by omega) hlc hb hS (by omega)).mono ?_
  rintro e w' ⟨a0, a1, a2⟩
  rcases a0 with ⟨rfl, s', h6, _, h9⟩ | ⟨_, h6, _⟩
  · exact ⟨rfl, Lib.hid ⟨s', hd, _, _, h6.out, h9 h2, by omega, by omega⟩, a1, a2⟩
  · exact absurd h2 h6
theorem sq_full (h : Sq B w g l ag left bs K) (n cap : Nat) (sp : Option Addr) (hn2 : n ≤ 4000) (hfit : left < need n) :
    Calls Tryd.prog 12 #[.pointer (some ⟨l, 0, none⟩), .slice sp n cap] w fun e w' => e = .returned (.int .i64 7) ∧ Hid (Below w.heap.size w w') := by
  obtain ⟨s, hd, p, k, h1, h2, h3, h4⟩ := h
  exact (lg_full h1 n cap sp (by omega) (by omega)).mono fun e w' h => ⟨h.1, Lib.hid h.2⟩
theorem sq_trunc (h : Sq B w g l ag left bs K) (hK : K ≤ 30000) (hA : ag ≤ 1000) :
    Calls Tryd.prog 13 #[.pointer (some ⟨l, 0, none⟩)] w fun e w' => e = .returned (.int .i64 0) ∧ Hid (Sq B w' g l (ag + 1) 12 [] (K + 20)) ∧ Hid (Below B w w') := by
  obtain ⟨s, hd, p, k, h1, h2, h3, h4⟩ := h
  refine (lg_trunc_q h1 h2 (by omega) (by omega)).mono ?_
  rintro e w' ⟨rfl, h6, h7⟩
  obtain ⟨s', h8, h9⟩ := h6.out
  exact ⟨rfl, Lib.hid ⟨s', _, _, _, h8, h9, rfl, by omega⟩, h7⟩
theorem sq_open (h : Sq B w g l ag left bs K) :
    Calls Tryd.prog 18 #[.pointer (some ⟨g, 0, none⟩), .int .i64 2, .int .i64 14] w fun e w' => ∃ (l' : Nat) (a : Option Addr) (n c : Nat), e = .returned (.tuple #[.pointer (some ⟨l', 0, none⟩), .slice a n c, .int .i64 0]) ∧ Hid (RowB w' a n bs) ∧ Hid (Sq B w' g l' ag left bs K) ∧ Hid (Below w.heap.size w w') := by
  obtain ⟨s, hd, p, k, h1, h2, h3, h4⟩ := h
  refine (lg_again (f := 2) (ct := 14) h1 h2 (by decide) 2 14 rfl rfl).mono ?_
  rintro e w' ⟨l', rs, rfl, a1, a2, a3⟩
  obtain ⟨a, n, c, rfl, hR⟩ := rowb_recs a2.out
  exact ⟨l', a, n, c, rfl, Lib.hid hR, Lib.hid ⟨s, hd, p, k, a1.out, h2, h3, h4⟩, a3⟩
/-- what the document tells of the log's sectors -/
theorem sq_scan (h : Sq B w g l ag left bs K) : ∃ ns : List ByteArray, Full ns ∧ (Calls Tryd.prog 21 #[.pointer (some ⟨g, 0, none⟩)] w fun e w' => ∃ gS c, e = .returned (.slice (some ⟨gS, 0, none⟩) 14 c) ∧ 14 ≤ c ∧ Hid (∀ i, i < 14 → w'.cell? ⟨gS, i, none⟩ = some (.string (ns.getD (2 + i) ByteArray.empty))) ∧ Hid (Below w.heap.size w w')) ∧
    ∀ W gS c, 14 ≤ c → Hid (∀ i, i < 14 → W.cell? ⟨gS, i, none⟩ = some (.string (ns.getD (2 + i) ByteArray.empty))) → Calls Tryd.prog 20 #[.slice (some ⟨gS, 0, none⟩) 14 c] W fun e w' => ∃ (x : Nat) (a : Option Addr) (n d : Nat), e = .returned (.tuple #[.int .i64 (ag : Int), .slice a n d, .int .i64 (x : Int)]) ∧ Hid (RowS w' a n (bs.map Fc.sv)) ∧ Hid (Below W.heap.size W w') := by
  obtain ⟨s, hd, p, k, h1, h2, h3, h4⟩ := h
  have hnl : s.ls.length = 18 := (da_len h1.da).1
  have hagT : max (ageT (sb s.ls 2)) (ageT (sb s.ls (2 + 1))) = (ag : Int) := by
    have h5 := stAt_two (fun q => sb s.ls (2 + q)) (sb_get h1.inv.full 2 (by omega)).2.2 (sb_get h1.inv.full 3 (by omega)).2.2
    rw [h1.inv.st] at h5
    exact h5.symm
  have hag := h1.inv.age
  refine ⟨s.ls, h1.inv.full, sectors_x h1.da h1.inv.full, fun W gS c hc hcl => ?_⟩
  refine (scan_x s.ls 2 14 (by decide) (by decide) h1.inv.full (by omega) (by decide) gS c hc (ag : Int) hagT W (fun i hi => by rw [hcl.out i hi, sb_sv])).mono ?_
  rintro e w' ⟨hres, hB⟩
  rcases hres with ⟨h6, _⟩ | ⟨_, bs2, x, v, rfl, k1, k2, k3⟩
  · omega
  · obtain ⟨rfl, _, _⟩ := recs_unique k1 k2 (recs_scn h1.inv.recs) (h1.inv.end (by decide))
    obtain ⟨a, n, d, rfl, hR⟩ := rows_own (ss := bs.map Fc.sv) (by rw [List.length_map]; exact k3.out.1) (fun h => k3.out.2 (by simpa using h))
    exact ⟨x, a, n, d, rfl, Lib.hid hR, hB⟩
/-- texts that were gathered stay, if another row is written -/
theorem got_side2 {v : Value} {ss : List ByteArray} {row : Option Nat} (hg : Got w g B v ss) (ho : Fk.Only (fun q => row = some q) w w') (h1 : ∀ q, v.ownBlock = some q → ¬ row = some q) (h2 : ¬ row = some g) (hlt : g < w.heap.size) : Got w' g B v ss := by
  obtain ⟨k1, k2, k3⟩ := hg
  refine ⟨Fk.own_only k1 ho h1, k2, fun q hq => foe_keep (k3 q hq) (ho.block g hlt h2)⟩
theorem row8_own {b n cap : Nat} {sp : Option Addr} {L : List Nat} (h : w.ownsRow b 5 1 (.slice sp n cap) n (Fw.cells L)) (hL : L.length = n) : Row8 B w sp L := fun hp => by
  obtain ⟨g', cap', hv⟩ := Fk.own_shape h (by omega)
  cases hv
  obtain ⟨cur, hc⟩ := own_blk h rfl
  exact ⟨g', 0, rfl, fun i hi => by
    rw [Nat.zero_add, World.ownsRow.cellAt h i (by omega)]
    simp [Fw.cells, List.getD, hi], .inl ⟨_, _, hc⟩⟩
end
theorem need_pos (n : Nat) : 1 ≤ need n := by unfold need; omega
theorem notTEnt : ¬ DiskT 36 := by unfold DiskT; decide
set_option maxHeartbeats 8000000 in
theorem entries_mid (a0 : Option Addr) (len0 cap0 : Nat) (z0 : List EntS) (w : World) (hG : 0 < w.heap.size) (ht : Hid (Fc.Tab w)) (hrow : IsRS 3 1 w a0 len0 cap0 z0) :
    Calls Tryd.prog 3 #[.slice a0 len0 cap0] w fun e w' => e = .returned (.bool true) ∧ Below w.heap.size w w' := by
  have HLog := Lib.hid (logs_any w hG ht)
  have HFr : Hid (∀ W, Below w.heap.size w W → Calls Tryd.prog 16 #[] W fun e w' => ∃ g l, e = .returned (.tuple #[.pointer (some ⟨g, 0, none⟩), .pointer (some ⟨l, 0, none⟩), .bool true]) ∧ Hid (∃ s, Lg W.heap.size w' g l 18 s 2 16 1 0 [] 4 20 ∧ Quiet s) ∧ Hid (Below W.heap.size W w')) := Lib.hid fun W hW => fresh_any W (Nat.lt_of_lt_of_le hG hW.size) (Lib.hid (Fc.tab_later ht.out hW))
  have HRow := Lib.hid hrow
  have hle := rs_le hrow
  clear hG hrow ht
  go_enter Tryd.func3, Tryd.ntmps3
  go_wp2_with fail
  refine HLog.out.mono ?_
  rintro e w1 ⟨rfl, HB1⟩
  clear HLog
  go_wp2_with fail
  refine (none_any w1).mono ?_
  rintro e w2 ⟨rfl, rfl⟩
  go_wp2_with fail
  refine (append_nil w1).mono ?_
  rintro e w2 ⟨rfl, rfl⟩
  go_wp2_with fail
  refine (none_any w1).mono ?_
  rintro e w2 ⟨rfl, rfl⟩
  go_wp2_with fail
  refine (trunc_nil w1).mono ?_
  rintro e w2 ⟨rfl, rfl⟩
  go_wp2_with fail
  refine (none_any w1).mono ?_
  rintro e w2 ⟨rfl, rfl⟩
  go_wp2_with fail
  refine (age_nil w1).mono ?_
  rintro e w2 ⟨rfl, rfl⟩
  go_wp2_with fail
  refine (none_any w1).mono ?_
  rintro e w2 ⟨rfl, rfl⟩
  go_wp2_with fail
  refine (room_nil w1).mono ?_
  rintro e wz ⟨rfl, hbz⟩
  have HBz : Hid (Below w.heap.size w wz) := Lib.hid (HB1.out.trans (hbz.mono HB1.out.size))
  have HFz := Lib.hid (HFr.out wz HBz.out)
  clear hbz HB1 HFr
  go_wp2_with fail
  refine HFz.out.mono ?_
  rintro e w3 ⟨g, l0, rfl, hL1, HB3⟩
  have HS3 : Hid (Sq wz.heap.size w3 g l0 1 12 [] 20) := Lib.hid (by
    obtain ⟨s, h1, h2⟩ := hL1.out
    exact ⟨s, 0, 4, 20, h1, h2, rfl, Nat.le_refl _⟩)
  clear hL1 HFz
  go_wp2_with fail
  go_loopw [4, 6, 7, 8, 9] (fun lv av nv hx i wr => ∃ (j l ag left : Nat) (hv : Value) (bs : List (List Nat)), lv = .pointer (some ⟨l, 0, none⟩) ∧ av = .int .i64 (ag : Int) ∧ nv = .int .i64 (left : Int) ∧ hv = hx ∧ i = .int .i64 (j : Int) ∧ j ≤ 20 ∧ ag ≤ 1 + j ∧ bs.length ≤ j ∧ left ≤ 12 ∧ Hid (Sq wz.heap.size wr g l ag left bs (20 + 20 * j)) ∧ Hid (Got wr g wz.heap.size hv (bs.map Fc.sv)) ∧ Hid (Below wz.heap.size wz wr)) (fun _ _ _ _ i _ => 20 - (intOf i).toNat)
  case atStart => exact ⟨0, l0, 1, 12, _, [], rfl, rfl, rfl, rfl, rfl, by omega, by omega, by simp, by omega, HS3, Lib.hid (got_nil _ _ _), HB3⟩
  case round =>
    obtain ⟨j, l, ag, left, hv, bs, rfl, rfl, rfl, rfl, rfl, hj, haj, hbl, hlf, hst, hgt, hbw⟩ := hrel
    obtain ⟨wo, rfl⟩ : ∃ wo : World, wo = wr := ⟨_, rfl⟩
    clear HS3 HB3
    by_cases hlt : j < len0
    · by_cases hlt5 : j < 20
      · have hltI : (j : Int) < (len0 : Int) := by omega
        have hlt5I : (j : Int) < 20 := by omega
        have hw1 : IntKind.i64.wrap ((j : Int) + 1) = ((j + 1 : Nat) : Int) := by rw [IntKind.wrap_i64]; omega
        obtain ⟨ga, oa, sp, n, c, zz, rfl, hcell, hcame, hf⟩ := ent_at (by decide) (by decide) HRow.out j hlt
        obtain ⟨v0, f0, _, _⟩ := hf 0 (by decide) (by decide)
        obtain ⟨v2, f2, _, _⟩ := hf 2 (by decide) (by decide)
        obtain ⟨q, hq, hqn, hmin, hmin2⟩ : ∃ q : Nat, q ≤ 4000 ∧ q ≤ n ∧ min (n : Int) 4000 = (q : Int) ∧ (if (4000 : Int) < (n : Int) then 4000 else (n : Int)) = (q : Int) := ⟨min n 4000, by omega, by omega, by omega, by split <;> omega⟩
        obtain ⟨b, hbn, hb256, hbrow⟩ := row_came hcame q hqn
        have hcl := Fc.came_le hcame
        have hca := Fc.came_addr hcame
        have HBwo : Hid (Below w.heap.size w wo) := Lib.hid (HBz.out.trans (hbw.out.mono HBz.out.size))
        have hlive : ∀ {a v}, w.cell? a = some v → wo.cell? a = some v := fun h => (HBwo.out.cell (World.block_lt_of_cell? w _ h)).trans h
        have c0 : wo.cell? ⟨ga, oa + j * 3, none⟩ = some (.int .i64 v0) := hlive f0
        have c2 := hlive f2
        have c4 := hlive hcell
        have hq0 : (q : Int) ≤ (n : Int) := by omega
        have hq1 : (q : Int) ≤ (c : Int) := by omega
        have hqc : q ≤ c := by omega
        have hsl0 : ∀ W, (Instr.slice 34 (.slice sp n c) none (some (.int .i64 (q : Int))) none).run Tryd.prog W = .ok (.slice sp q c) W := fun W => by
          cases sp with
          | none =>
            obtain ⟨rfl, rfl⟩ : n = 0 ∧ c = 0 := by
              rcases hca with ⟨_, h1, h2⟩ | ⟨x, h1⟩
              · exact ⟨h1, h2⟩
              · cases h1
            obtain rfl : q = 0 := by omega
            go_simp
          | some y => go_simp
        have hal : Below wo.heap.size wo (wo.alloc (.cells #[.int .i64 v0, .slice sp n c, .int .i64 v2] 36)) := (Below.refl _ _).alloc (Nat.le_refl _) _
        obtain ⟨ba, bc, w12, hrun, hob, hb12⟩ := copy_bytes (wo.alloc (.cells #[.int .i64 v0, .slice sp n c, .int .i64 v2] 36)) sp q c b hbn (by omega) (Fc.src_later (Fc.src_later hbrow.src HBwo.out) hal) (fun e => by
          rcases hca with ⟨_, _, h2⟩ | ⟨x, h1⟩
          · exact h2
          · rw [e] at h1; cases h1) (wo.heap.size + 1) (by simp) 34
        have hball : Below wo.heap.size wo w12 := hal.trans (hb12.mono hal.size)
        have HX12 : Hid (∀ W, Below w12.heap.size w12 W → W.cell? ⟨wo.heap.size, 0, none⟩ = some (.int .i64 v0)) := Lib.hid fun W hW => by
          have h9 : (wo.alloc (.cells #[.int .i64 v0, .slice sp n c, .int .i64 v2] 36)).heap[wo.heap.size]? = _ := al_new _ _ _ rfl
          have hlt9 := (Array.getElem?_eq_some_iff.1 h9).1
          have h10 : W.heap[wo.heap.size]? = _ := (hW.block _ (Nat.lt_of_lt_of_le hlt9 hb12.size)).trans ((hb12.block _ hlt9).trans h9)
          simp only [World.cell?, h10]
          rfl
        obtain ⟨ss, hss⟩ : ∃ ss, bs.map Fc.sv = ss := ⟨_, rfl⟩
        have hsl : ss.length ≤ j := by rw [← hss, List.length_map]; exact hbl
        have HSq12 : Hid (∀ W, Below w12.heap.size w12 W → Sq wz.heap.size W g l ag left bs (20 + 20 * j)) := Lib.hid fun W hW => sq_below (sq_below hst.out hball) hW
        have HG12 : Hid (∀ W, Below w12.heap.size w12 W → Got W g wz.heap.size hv ss) := Lib.hid fun W hW => by
          rw [← hss]; exact got_below (got_below hgt.out hball) hW
        have HO12 : Hid (∀ W, Below w12.heap.size w12 W → W.ownsRow wz.heap.size 5 1 (.slice ba q bc) q (Fw.cells b)) := Lib.hid fun W hW => own_past (Fk.own_base hob (Nat.le_trans hbw.out.size hal.size)) hW
        have HBw12 : Hid (Below wz.heap.size wz w12) := Lib.hid (hbw.out.trans (hball.mono hbw.out.size))
        have Hb := Lib.hid (And.intro hbn hb256)
        have hqbc : q ≤ bc := by
          rcases hob.2 with ⟨e, h0⟩ | ⟨q', cap', cur', e, _, _, r', _⟩
          · omega
          · cases e; exact r'
        clear hcell hcame hbn hb256 hbrow hcl hca f0 f2 hf hlive hob hb12 hball hal hst hgt hbw
        by_cases hl0 : left = 0
        · subst hl0
          have HRo := Lib.hid (fun W hW => sq_room (HSq12.out W hW) (-1) rfl)
          go_wp2_with (at_builtin; refine Lib.wpList_append_run _ rfl _ _ _ _ rfl _ _ rfl rfl _ _ hrun ?_)
          refine (HRo.out w12 (Below.refl _ _)).mono ?_
          rintro e wa ⟨rfl, HBa⟩
          go_wp2_with fail
          refine (HRo.out wa HBa.out).mono ?_
          rintro e wb ⟨rfl, HBb0⟩
          have HBb : Hid (Below w12.heap.size w12 wb) := Lib.hid (HBa.out.trans (HBb0.out.mono HBa.out.size))
          clear HRo HBa HBb0 hrun
          have HAg := Lib.hid (sq_age (HSq12.out wb HBb.out))
          have HSq := Lib.hid (HSq12.out wb HBb.out)
          have HGt := Lib.hid (HG12.out wb HBb.out)
          have HOw := Lib.hid (HO12.out wb HBb.out)
          have y0 := HX12.out wb HBb.out
          have HBw : Hid (Below wz.heap.size wz wb) := Lib.hid (HBw12.out.trans (HBb.out.mono HBw12.out.size))
          clear HSq12 HG12 HO12 HX12 HBw12 HBb c0 c2 c4 hsl0 hmin hmin2
          go_wp2_with fail
          refine HAg.out.mono ?_
          rintro e w_ ⟨rfl, rfl⟩
          clear HAg
          by_cases hv1 : v0 = 1
          · subst hv1
            obtain ⟨nd, hnd⟩ : ∃ nd, need q = nd := ⟨_, rfl⟩
            have HNd := Lib.hid (fun W => needR_any q (by omega) W)
            rw [hnd] at HNd
            by_cases hfit : nd ≤ 0
            · exact absurd hfit (by have h9 := need_pos q; omega)
            · have hfiI : (0 : Int) < (nd : Int) := by omega
              have HAp := Lib.hid (sq_full HSq.out q bc ba hq (by rw [hnd]; omega))
              go_wp2_with fail
              refine HAp.out.mono ?_
              rintro e w13 ⟨rfl, HB13⟩
              have HSc : Hid (Sq wz.heap.size w13 g l ag 0 bs (20 + 20 * (j + 1))) := Lib.hid (sq_mono (sq_below HSq.out HB13.out) (by omega))
              have HGc : Hid (Got w13 g wz.heap.size hv (bs.map Fc.sv)) := Lib.hid (by rw [hss]; exact got_below HGt.out HB13.out)
              have HBc : Hid (Below wz.heap.size wz w13) := Lib.hid (HBw.out.trans (HB13.out.mono HBw.out.size))
              clear HAp HSq HGt HOw HBw y0 HB13
              go_wp2_with fail
              refine (HNd.out w13).mono ?_
              rintro e w14 ⟨rfl, rfl⟩
              clear HNd
              go_wp2_with fail
              go_roundw
              case rel => exact ⟨j + 1, l, ag, 0, _, bs, rfl, rfl, rfl, rfl, by go_num, by omega, by omega, by omega, hlf, HSc, HGc, HBc⟩
              case measure => simp [intOf]; omega
          · have hv1I : ¬ (v0 = (1 : Int)) := hv1
            by_cases hv2 : v0 = 2
            · subst hv2
              have HTr := Lib.hid (sq_trunc HSq.out (by omega) (by omega))
              have hwa : IntKind.i64.wrap ((ag : Int) + 1) = ((ag + 1 : Nat) : Int) := by rw [IntKind.wrap_i64]; omega
              go_wp2_with fail
              refine HTr.out.mono ?_
              rintro e w13 ⟨rfl, HS13, HB13⟩
              have HSqc : Hid (Sq wz.heap.size w13 g l (ag + 1) 12 [] (20 + 20 * (j + 1))) := Lib.hid (sq_mono HS13.out (by omega))
              have HGc : Hid (Got w13 g wz.heap.size (.slice none 0 0) (([] : List (List Nat)).map Fc.sv)) := Lib.hid (got_nil _ _ _)
              have HBc : Hid (Below wz.heap.size wz w13) := Lib.hid (HBw.out.trans HB13.out)
              clear HTr HSq HGt HOw HBw y0 HS13 HB13
              go_wp2_with fail
              obtain ⟨ns, hfl, hse, hsc⟩ := sq_scan HSqc.out
              have HSe := Lib.hid hse
              have HSc := Lib.hid hsc
              have hlen : ([] : List (List Nat)).length ≤ j + 1 := by simp
              clear hse hsc
              refine HSe.out.mono ?_
              rintro e wd ⟨gS, cS, rfl, hcS, HCe, HBd⟩
              have HS6 := Lib.hid (HSc.out wd gS cS hcS HCe)
              clear HSe HSc HCe
              go_wp2_with fail
              refine HS6.out.mono ?_
              rintro e we ⟨x, va, vn, vd, rfl, HRs, HBe⟩
              have HBce : Hid (Below w13.heap.size w13 we) := Lib.hid (HBd.out.trans (HBe.out.mono HBd.out.size))
              have hvn : vn ≤ 1000 := by have := HRs.out.1; rw [List.length_map] at this; omega
              have HBy := Lib.hid (bytes_x va vn vd _ we HRs.out hvn)
              clear HS6 HBd HBe HRs
              go_wp2_with fail
              refine HBy.out.mono ?_
              rintro e wf ⟨rw0, rfl, HRe, HBf⟩
              obtain ⟨ra2, rn2, rc2, rfl, hRb2⟩ := rowb_recs HRe.out
              have HBcf : Hid (Below w13.heap.size w13 wf) := Lib.hid (HBce.out.trans (HBf.out.mono HBce.out.size))
              have HSm2 : Hid (Calls Tryd.prog 19 #[.slice ra2 rn2 rc2, (.slice none 0 0)] wf fun e w' => e = .returned (.bool true) ∧ Hid (Below wf.heap.size wf w')) := Lib.hid (by
                obtain ⟨sa, sn, sc, hse, hRo⟩ := rows_own (got_below HGc.out HBcf.out).1 (got_below HGc.out HBcf.out).2.1
                rw [hse]
                refine same_any ra2 rn2 rc2 _ sa sn sc _ wf hRb2 hRo (by have := hRb2.1; rw [List.length_map, List.length_map] at this; omega) (by have := hRo.1; rw [List.length_map] at this; omega) true ⟨fun _ => ?_, fun _ => rfl⟩
                rw [List.map_map]
                exact (List.map_congr_left fun s _ => Fw.sv_bytesOf s).trans (List.map_id _))
              clear HBy HRe hRb2 HBce HBf
              go_wp2_with fail
              refine HSm2.out.mono ?_
              rintro e wg ⟨rfl, HBg⟩
              have HBcg : Hid (Below w13.heap.size w13 wg) := Lib.hid (HBcf.out.trans (HBg.out.mono HBcf.out.size))
              have HSz := Lib.hid (sq_below HSqc.out HBcg.out)
              have HGz := Lib.hid (got_below HGc.out HBcg.out)
              have HBzz : Hid (Below wz.heap.size wz wg) := Lib.hid (HBc.out.trans (HBcg.out.mono HBc.out.size))
              clear HSm2 HBg HBcf HBcg HSqc HGc HBc
              go_wp2_with fail
              go_roundw
              case rel => exact ⟨j + 1, l, (ag + 1), 12, _, [], rfl, by go_num, by go_num, rfl, by go_num, by omega, by omega, hlen, by omega, HSz, HGz, HBzz⟩
              case measure => simp [intOf]; omega
            · have hv2I : ¬ (v0 = (2 : Int)) := hv2
              by_cases hv3 : v0 = 3
              · subst hv3
                have HOp := Lib.hid (sq_open HSq.out)
                go_wp2_with fail
                refine HOp.out.mono ?_
                rintro e w13 ⟨l', ra, rn, rc, rfl, HRb, HS13, HB13⟩
                have HSqo : Hid (∀ W, Below w13.heap.size w13 W → Sq wz.heap.size W g l' ag 0 bs (20 + 20 * (j + 1))) := Lib.hid fun W hW => sq_mono (sq_below HS13.out hW) (by omega)
                have HGo : Hid (∀ W, Below w13.heap.size w13 W → Got W g wz.heap.size hv (bs.map Fc.sv)) := Lib.hid fun W hW => by rw [hss]; exact got_below (got_below HGt.out HB13.out) hW
                have HBo : Hid (Below wz.heap.size wz w13) := Lib.hid (HBw.out.trans (HB13.out.mono HBw.out.size))
                have HSm : Hid (Calls Tryd.prog 19 #[.slice ra rn rc, hv] w13 fun e w' => e = .returned (.bool true) ∧ Hid (Below w13.heap.size w13 w')) := Lib.hid (by
                  obtain ⟨sa, sn, sc, hse, hRo⟩ := rows_own (HGo.out w13 (Below.refl _ _)).1 (HGo.out w13 (Below.refl _ _)).2.1
                  rw [hse]
                  exact same_any ra rn rc bs sa sn sc _ w13 HRb.out hRo (by have := HRb.out.1; omega) (by have := hRo.1; rw [List.length_map] at this; omega) true ⟨fun _ => rfl, fun _ => rfl⟩)
                clear HOp HSq HGt HOw HBw y0 HS13 HB13 HRb
                go_wp2_with fail
                refine HSm.out.mono ?_
                rintro e w16 ⟨rfl, HB16⟩
                have HSqc := Lib.hid (HSqo.out w16 HB16.out)
                have HGc := Lib.hid (HGo.out w16 HB16.out)
                have HBc : Hid (Below wz.heap.size wz w16) := Lib.hid (HBo.out.trans (HB16.out.mono HBo.out.size))
                clear HSm HSqo HGo HBo HB16
                go_wp2_with fail
                obtain ⟨ns, hfl, hse, hsc⟩ := sq_scan HSqc.out
                have HSe := Lib.hid hse
                have HSc := Lib.hid hsc
                have hlen : (bs : List (List Nat)).length ≤ j + 1 := by omega
                clear hse hsc
                refine HSe.out.mono ?_
                rintro e wd ⟨gS, cS, rfl, hcS, HCe, HBd⟩
                have HS6 := Lib.hid (HSc.out wd gS cS hcS HCe)
                clear HSe HSc HCe
                go_wp2_with fail
                refine HS6.out.mono ?_
                rintro e we ⟨x, va, vn, vd, rfl, HRs, HBe⟩
                have HBce : Hid (Below w16.heap.size w16 we) := Lib.hid (HBd.out.trans (HBe.out.mono HBd.out.size))
                have hvn : vn ≤ 1000 := by have := HRs.out.1; rw [List.length_map] at this; omega
                have HBy := Lib.hid (bytes_x va vn vd _ we HRs.out hvn)
                clear HS6 HBd HBe HRs
                go_wp2_with fail
                refine HBy.out.mono ?_
                rintro e wf ⟨rw0, rfl, HRe, HBf⟩
                obtain ⟨ra2, rn2, rc2, rfl, hRb2⟩ := rowb_recs HRe.out
                have HBcf : Hid (Below w16.heap.size w16 wf) := Lib.hid (HBce.out.trans (HBf.out.mono HBce.out.size))
                have HSm2 : Hid (Calls Tryd.prog 19 #[.slice ra2 rn2 rc2, hv] wf fun e w' => e = .returned (.bool true) ∧ Hid (Below wf.heap.size wf w')) := Lib.hid (by
                  obtain ⟨sa, sn, sc, hse, hRo⟩ := rows_own (got_below HGc.out HBcf.out).1 (got_below HGc.out HBcf.out).2.1
                  rw [hse]
                  refine same_any ra2 rn2 rc2 _ sa sn sc _ wf hRb2 hRo (by have := hRb2.1; rw [List.length_map, List.length_map] at this; omega) (by have := hRo.1; rw [List.length_map] at this; omega) true ⟨fun _ => ?_, fun _ => rfl⟩
                  rw [List.map_map]
                  exact (List.map_congr_left fun s _ => Fw.sv_bytesOf s).trans (List.map_id _))
                clear HBy HRe hRb2 HBce HBf
                go_wp2_with fail
                refine HSm2.out.mono ?_
                rintro e wg ⟨rfl, HBg⟩
                have HBcg : Hid (Below w16.heap.size w16 wg) := Lib.hid (HBcf.out.trans (HBg.out.mono HBcf.out.size))
                have HSz := Lib.hid (sq_below HSqc.out HBcg.out)
                have HGz := Lib.hid (got_below HGc.out HBcg.out)
                have HBzz : Hid (Below wz.heap.size wz wg) := Lib.hid (HBc.out.trans (HBcg.out.mono HBc.out.size))
                clear HSm2 HBg HBcf HBcg HSqc HGc HBc
                go_wp2_with fail
                go_roundw
                case rel => exact ⟨j + 1, l', ag, 0, _, bs, rfl, by go_num, by go_num, rfl, by go_num, by omega, by omega, hlen, by omega, HSz, HGz, HBzz⟩
                case measure => simp [intOf]; omega
              · have hv3I : ¬ (v0 = (3 : Int)) := hv3
                have HSqc : Hid (Sq wz.heap.size wb g l ag 0 bs (20 + 20 * (j + 1))) := Lib.hid (sq_mono HSq.out (by omega))
                have HGc : Hid (Got wb g wz.heap.size hv (bs.map Fc.sv)) := Lib.hid (by rw [hss]; exact HGt.out)
                have HBc := HBw
                clear HSq HGt HOw HBw
                go_wp2_with fail
                obtain ⟨ns, hfl, hse, hsc⟩ := sq_scan HSqc.out
                have HSe := Lib.hid hse
                have HSc := Lib.hid hsc
                have hlen : (bs : List (List Nat)).length ≤ j + 1 := by omega
                clear hse hsc
                refine HSe.out.mono ?_
                rintro e wd ⟨gS, cS, rfl, hcS, HCe, HBd⟩
                have HS6 := Lib.hid (HSc.out wd gS cS hcS HCe)
                clear HSe HSc HCe
                go_wp2_with fail
                refine HS6.out.mono ?_
                rintro e we ⟨x, va, vn, vd, rfl, HRs, HBe⟩
                have HBce : Hid (Below wb.heap.size wb we) := Lib.hid (HBd.out.trans (HBe.out.mono HBd.out.size))
                have hvn : vn ≤ 1000 := by have := HRs.out.1; rw [List.length_map] at this; omega
                have HBy := Lib.hid (bytes_x va vn vd _ we HRs.out hvn)
                clear HS6 HBd HBe HRs
                go_wp2_with fail
                refine HBy.out.mono ?_
                rintro e wf ⟨rw0, rfl, HRe, HBf⟩
                obtain ⟨ra2, rn2, rc2, rfl, hRb2⟩ := rowb_recs HRe.out
                have HBcf : Hid (Below wb.heap.size wb wf) := Lib.hid (HBce.out.trans (HBf.out.mono HBce.out.size))
                have HSm2 : Hid (Calls Tryd.prog 19 #[.slice ra2 rn2 rc2, hv] wf fun e w' => e = .returned (.bool true) ∧ Hid (Below wf.heap.size wf w')) := Lib.hid (by
                  obtain ⟨sa, sn, sc, hse, hRo⟩ := rows_own (got_below HGc.out HBcf.out).1 (got_below HGc.out HBcf.out).2.1
                  rw [hse]
                  refine same_any ra2 rn2 rc2 _ sa sn sc _ wf hRb2 hRo (by have := hRb2.1; rw [List.length_map, List.length_map] at this; omega) (by have := hRo.1; rw [List.length_map] at this; omega) true ⟨fun _ => ?_, fun _ => rfl⟩
                  rw [List.map_map]
                  exact (List.map_congr_left fun s _ => Fw.sv_bytesOf s).trans (List.map_id _))
                clear HBy HRe hRb2 HBce HBf
                go_wp2_with fail
                refine HSm2.out.mono ?_
                rintro e wg ⟨rfl, HBg⟩
                have HBcg : Hid (Below wb.heap.size wb wg) := Lib.hid (HBcf.out.trans (HBg.out.mono HBcf.out.size))
                have HSz := Lib.hid (sq_below HSqc.out HBcg.out)
                have HGz := Lib.hid (got_below HGc.out HBcg.out)
                have HBzz : Hid (Below wz.heap.size wz wg) := Lib.hid (HBc.out.trans (HBcg.out.mono HBc.out.size))
                clear HSm2 HBg HBcf HBcg HSqc HGc HBc
                go_wp2_with fail
                go_roundw
                case rel => exact ⟨j + 1, l, ag, 0, _, bs, rfl, by go_num, by go_num, rfl, by go_num, by omega, by omega, hlen, by omega, HSz, HGz, HBzz⟩
                case measure => simp [intOf]; omega
        · obtain ⟨y, hy⟩ : ∃ y, left - 1 = y := ⟨_, rfl⟩
          obtain ⟨rv, hrv⟩ : ∃ rv, y * 511 = rv := ⟨_, rfl⟩
          have hwy : IntKind.i64.wrap ((left : Int) - 1) = (y : Int) := by rw [IntKind.wrap_i64]; omega
          have hwr : IntKind.i64.wrap ((y : Int) * 511) = (rv : Int) := by rw [IntKind.wrap_i64]; omega
          have HRo := Lib.hid (fun W hW => sq_room (HSq12.out W hW) (rv : Int) (by rw [if_neg hl0]; omega))
          clear hy hrv
          go_wp2_with (at_builtin; refine Lib.wpList_append_run _ rfl _ _ _ _ rfl _ _ rfl rfl _ _ hrun ?_)
          refine (HRo.out w12 (Below.refl _ _)).mono ?_
          rintro e wb ⟨rfl, HBb⟩
          clear HRo hrun
          have HAg := Lib.hid (sq_age (HSq12.out wb HBb.out))
          have HSq := Lib.hid (HSq12.out wb HBb.out)
          have HGt := Lib.hid (HG12.out wb HBb.out)
          have HOw := Lib.hid (HO12.out wb HBb.out)
          have y0 := HX12.out wb HBb.out
          have HBw : Hid (Below wz.heap.size wz wb) := Lib.hid (HBw12.out.trans (HBb.out.mono HBw12.out.size))
          clear HSq12 HG12 HO12 HX12 HBw12 HBb c0 c2 c4 hsl0 hmin hmin2
          go_wp2_with fail
          refine HAg.out.mono ?_
          rintro e w_ ⟨rfl, rfl⟩
          clear HAg
          by_cases hv1 : v0 = 1
          · subst hv1
            obtain ⟨nd, hnd⟩ : ∃ nd, need q = nd := ⟨_, rfl⟩
            have HNd := Lib.hid (fun W => needR_any q (by omega) W)
            rw [hnd] at HNd
            by_cases hfit : nd ≤ left
            · have hfiI : ¬ ((left : Int) < (nd : Int)) := by omega
              have hwn : IntKind.i64.wrap ((left : Int) - (nd : Int)) = ((left - nd : Nat) : Int) := by rw [IntKind.wrap_i64]; omega
              have HAp := Lib.hid (sq_append HSq.out (by omega) b q bc ba Hb.out.1 hq hqbc Hb.out.2 (row8_own HOw.out Hb.out.1) (by rw [hnd]; exact hfit))
              rw [hnd] at HAp
              go_wp2_with fail
              refine HAp.out.mono ?_
              rintro e w13 ⟨rfl, HS13, HB13, HK13⟩
              have HG13 := Lib.hid (got_keepA (sq_ar HSq.out) HK13.out HGt.out)
              have HO13 : Hid (w13.ownsRow wz.heap.size 5 1 (.slice ba q bc) q (Fw.cells b)) := Lib.hid (own_same HOw.out fun x cur hx hc => HK13.out.cells (fun e => by
                obtain ⟨s, hd, p, k, h1, _⟩ := HSq.out
                have h2 := h1.log
                unfold LogAt at h2
                rw [← e, hc] at h2
                exact absurd h2 (by simp)) hc notT8)
              have HBw13 := Lib.hid (HBw.out.trans HB13.out)
              obtain ⟨tU, htU⟩ : ∃ t, Fc.sv b = t := ⟨_, rfl⟩
              have hcv : (convert 34 9 (.slice ba q bc)).run Tryd.prog w13 = .ok (.string tU) w13 := by
                rw [← htU]; exact own_conv HO13.out Hb.out.1
              have hal : Below w13.heap.size w13 (w13.alloc (.cells #[.string tU] 9)) := (Below.refl _ _).alloc (Nat.le_refl _) _
              obtain ⟨sD, kD, hDa⟩ := sq_da (sq_below HS13.out hal)
              obtain ⟨v', w15, hrun2, hgn, hgr⟩ := got_more hDa (got_below HG13.out hal) ⟨w13.heap.size, 0, none⟩ tU (by
                have h9 : (w13.alloc (.cells #[.string tU] 9)).heap[w13.heap.size]? = _ := al_new _ _ _ rfl
                simp only [World.cell?, h9]
                rfl) (by omega) 33
              have ho15 : Fk.Only (fun x => hv.ownBlock = some x) (w13.alloc (.cells #[.string tU] 9)) w15 := Fk.Only.grown (Fk.Only.refl _ _) hgr (fun k e => e)
              have HS15 : Hid (Sq wz.heap.size w15 g l ag (left - nd) (bs ++ [b]) (20 + 20 * j + 20)) := Lib.hid (sq_side (sq_below HS13.out hal) ho15 (got_side (got_below HG13.out hal)))
              have HG15 : Hid (Got w15 g wz.heap.size v' ((bs ++ [b]).map Fc.sv)) := Lib.hid (by rw [sv_inj_append, hss, htU]; exact hgn)
              have HO15 : Hid (w15.ownsRow wz.heap.size 5 1 (.slice ba q bc) q (Fw.cells b)) := Lib.hid (Fk.own_only (own_past HO13.out hal) ho15 fun x hx e => by
                obtain ⟨c1, k1⟩ := own_blk (own_past HO13.out hal) hx
                obtain ⟨c2, k2⟩ := own_blk (got_below HG13.out hal).1 e
                rw [k1] at k2
                exact absurd k2 (by simp))
              have HBw15 : Hid (Below wz.heap.size wz w15) := Lib.hid ((HBw13.out.trans (hal.mono (HBw13.out.size))).trans (ho15.below (fun x e => (got_side (got_below HG13.out hal) x e).1) (Nat.le_trans HBw13.out.size hal.size)))
              clear HAp HSq HGt HOw HBw y0 HS13 HG13 HO13 HBw13 hal hDa hgn hgr ho15 HB13 HK13
              go_wp2_with fail
              refine (HNd.out w13).mono ?_
              rintro e w14 ⟨rfl, rfl⟩
              clear HNd
              go_wp2_with (at_builtin; refine Lib.wpList_append_run _ rfl _ _ _ _ rfl _ _ rfl rfl _ _ hrun2 ?_)
              go_loopw [14] (fun kv wr => ∃ (k : Nat) (xs : List Value), kv = .int .i64 (k : Int) ∧ k ≤ q ∧ Hid (wr.ownsRow wz.heap.size 5 1 (.slice ba q bc) q xs) ∧ Hid (Fk.Only (fun x => (Value.slice ba q bc).ownBlock = some x) w15 wr)) (fun k _ => q - (intOf k).toNat)
              case atStart => exact ⟨0, _, rfl, by omega, HO15, Lib.hid (Fk.Only.refl _ _)⟩
              case round =>
                obtain ⟨k, xs, rfl, hkq, HOr, HOn⟩ := hrel
                obtain ⟨wi, rfl⟩ : ∃ wi : World, wi = wr := ⟨_, rfl⟩
                by_cases hkl : k < q
                · have hklI : (k : Int) < (q : Int) := by omega
                  have hwk : IntKind.i64.wrap ((k : Int) + 1) = ((k + 1 : Nat) : Int) := by rw [IntKind.wrap_i64]; omega
                  obtain ⟨gb, cap', hba⟩ := Fk.own_shape HOr.out (by omega)
                  cases hba
                  have hxl : xs.length = q := by have := HOr.out.1; omega
                  obtain ⟨xv, hxv⟩ : ∃ xv, xs[k]'(by omega) = xv := ⟨_, rfl⟩
                  have hc : wi.cell? ⟨gb, k, none⟩ = some xv := by
                    rw [World.ownsRow.cellAt HOr.out k (by omega), List.getElem?_eq_getElem (by omega), hxv]
                  have hfr : wi.frozen? ⟨gb, k, none⟩ = false := World.ownsRow.frozenAt HOr.out k
                  have HOr2 : Hid ((wi.setCell ⟨gb, k, none⟩ (.int .u8 238)).ownsRow wz.heap.size 5 1 (.slice (some ⟨gb, 0, none⟩) q bc) q (xs.set k (.int .u8 238))) := Lib.hid (World.ownsRow.stored HOr.out k _).1
                  have HOn2 : Hid (Fk.Only (fun x => (Value.slice (some ⟨gb, 0, none⟩) q bc).ownBlock = some x) w15 (wi.setCell ⟨gb, k, none⟩ (.int .u8 238))) := Lib.hid (HOn.out.setCell (p := ⟨gb, k, none⟩) rfl _)
                  clear hxv hxl HOr HOn
                  go_wp2_with fail
                  go_roundw
                  case rel => exact ⟨k + 1, _, by go_num, by omega, HOr2, HOn2⟩
                  case measure => simp [intOf]; omega
                · obtain rfl : k = q := by omega
                  have hklI : ¬ ((k : Int) < (k : Int)) := by omega
                  obtain ⟨sD, kD, hDa⟩ := sq_da HS15.out
                  have HSqc : Hid (Sq wz.heap.size wi g l ag (left - nd) (bs ++ [b]) (20 + 20 * (j + 1))) := Lib.hid (sq_mono (sq_side HS15.out HOn.out (u8_side hDa HO15.out (Nat.le_refl _))) (by omega))
                  have HGc : Hid (Got wi g wz.heap.size v' ((bs ++ [b]).map Fc.sv)) := Lib.hid (got_side2 HG15.out HOn.out (fun x hx e => by
                    obtain ⟨c1, k1⟩ := own_blk HO15.out e
                    obtain ⟨c2, k2⟩ := own_blk HG15.out.1 hx
                    rw [k1] at k2
                    exact absurd k2 (by simp)) (fun e => by
                    obtain ⟨c1, k1⟩ := own_blk HO15.out e
                    obtain ⟨c2, f2, k2⟩ := da_type hDa
                    rw [k1] at k2
                    exact absurd k2 (by simp)) (da_lt hDa).1)
                  have HBc : Hid (Below wz.heap.size wz wi) := Lib.hid (HBw15.out.trans (HOn.out.below (fun x e => (u8_side hDa HO15.out (Nat.le_refl _) x e).1) HBw15.out.size))
                  clear HS15 HG15 HO15 HBw15 HOr HOn hDa
                  go_wp2_with fail
                  obtain ⟨ns, hfl, hse, hsc⟩ := sq_scan HSqc.out
                  have HSe := Lib.hid hse
                  have HSc := Lib.hid hsc
                  have hlen : (bs ++ [b] : List (List Nat)).length ≤ j + 1 := by simp; omega
                  clear hse hsc
                  refine HSe.out.mono ?_
                  rintro e wd ⟨gS, cS, rfl, hcS, HCe, HBd⟩
                  have HS6 := Lib.hid (HSc.out wd gS cS hcS HCe)
                  clear HSe HSc HCe
                  go_wp2_with fail
                  refine HS6.out.mono ?_
                  rintro e we ⟨x, va, vn, vd, rfl, HRs, HBe⟩
                  have HBce : Hid (Below wi.heap.size wi we) := Lib.hid (HBd.out.trans (HBe.out.mono HBd.out.size))
                  have hvn : vn ≤ 1000 := by have := HRs.out.1; rw [List.length_map] at this; omega
                  have HBy := Lib.hid (bytes_x va vn vd _ we HRs.out hvn)
                  clear HS6 HBd HBe HRs
                  go_wp2_with fail
                  refine HBy.out.mono ?_
                  rintro e wf ⟨rw0, rfl, HRe, HBf⟩
                  obtain ⟨ra2, rn2, rc2, rfl, hRb2⟩ := rowb_recs HRe.out
                  have HBcf : Hid (Below wi.heap.size wi wf) := Lib.hid (HBce.out.trans (HBf.out.mono HBce.out.size))
                  have HSm2 : Hid (Calls Tryd.prog 19 #[.slice ra2 rn2 rc2, v'] wf fun e w' => e = .returned (.bool true) ∧ Hid (Below wf.heap.size wf w')) := Lib.hid (by
                    obtain ⟨sa, sn, sc, hse, hRo⟩ := rows_own (got_below HGc.out HBcf.out).1 (got_below HGc.out HBcf.out).2.1
                    rw [hse]
                    refine same_any ra2 rn2 rc2 _ sa sn sc _ wf hRb2 hRo (by have := hRb2.1; rw [List.length_map, List.length_map] at this; omega) (by have := hRo.1; rw [List.length_map] at this; omega) true ⟨fun _ => ?_, fun _ => rfl⟩
                    rw [List.map_map]
                    exact (List.map_congr_left fun s _ => Fw.sv_bytesOf s).trans (List.map_id _))
                  clear HBy HRe hRb2 HBce HBf
                  go_wp2_with fail
                  refine HSm2.out.mono ?_
                  rintro e wg ⟨rfl, HBg⟩
                  have HBcg : Hid (Below wi.heap.size wi wg) := Lib.hid (HBcf.out.trans (HBg.out.mono HBcf.out.size))
                  have HSz := Lib.hid (sq_below HSqc.out HBcg.out)
                  have HGz := Lib.hid (got_below HGc.out HBcg.out)
                  have HBzz : Hid (Below wz.heap.size wz wg) := Lib.hid (HBc.out.trans (HBcg.out.mono HBc.out.size))
                  clear HSm2 HBg HBcf HBcg HSqc HGc HBc
                  go_wp2_with fail
                  go_roundw
                  case rel => exact ⟨j + 1, l, ag, (left - nd), _, bs ++ [b], rfl, by go_num, by go_num, rfl, by go_num, by omega, by omega, hlen, by omega, HSz, HGz, HBzz⟩
                  case measure => simp [intOf]; omega
            · have hfiI : (left : Int) < (nd : Int) := by omega
              have HAp := Lib.hid (sq_full HSq.out q bc ba hq (by rw [hnd]; omega))
              go_wp2_with fail
              refine HAp.out.mono ?_
              rintro e w13 ⟨rfl, HB13⟩
              have HSc : Hid (Sq wz.heap.size w13 g l ag left bs (20 + 20 * (j + 1))) := Lib.hid (sq_mono (sq_below HSq.out HB13.out) (by omega))
              have HGc : Hid (Got w13 g wz.heap.size hv (bs.map Fc.sv)) := Lib.hid (by rw [hss]; exact got_below HGt.out HB13.out)
              have HBc : Hid (Below wz.heap.size wz w13) := Lib.hid (HBw.out.trans (HB13.out.mono HBw.out.size))
              clear HAp HSq HGt HOw HBw y0 HB13
              go_wp2_with fail
              refine (HNd.out w13).mono ?_
              rintro e w14 ⟨rfl, rfl⟩
              clear HNd
              go_wp2_with fail
              go_roundw
              case rel => exact ⟨j + 1, l, ag, left, _, bs, rfl, rfl, rfl, rfl, by go_num, by omega, by omega, by omega, hlf, HSc, HGc, HBc⟩
              case measure => simp [intOf]; omega
          · have hv1I : ¬ (v0 = (1 : Int)) := hv1
            by_cases hv2 : v0 = 2
            · subst hv2
              have HTr := Lib.hid (sq_trunc HSq.out (by omega) (by omega))
              have hwa : IntKind.i64.wrap ((ag : Int) + 1) = ((ag + 1 : Nat) : Int) := by rw [IntKind.wrap_i64]; omega
              go_wp2_with fail
              refine HTr.out.mono ?_
              rintro e w13 ⟨rfl, HS13, HB13⟩
              have HSqc : Hid (Sq wz.heap.size w13 g l (ag + 1) 12 [] (20 + 20 * (j + 1))) := Lib.hid (sq_mono HS13.out (by omega))
              have HGc : Hid (Got w13 g wz.heap.size (.slice none 0 0) (([] : List (List Nat)).map Fc.sv)) := Lib.hid (got_nil _ _ _)
              have HBc : Hid (Below wz.heap.size wz w13) := Lib.hid (HBw.out.trans HB13.out)
              clear HTr HSq HGt HOw HBw y0 HS13 HB13
              go_wp2_with fail
              obtain ⟨ns, hfl, hse, hsc⟩ := sq_scan HSqc.out
              have HSe := Lib.hid hse
              have HSc := Lib.hid hsc
              have hlen : ([] : List (List Nat)).length ≤ j + 1 := by simp
              clear hse hsc
              refine HSe.out.mono ?_
              rintro e wd ⟨gS, cS, rfl, hcS, HCe, HBd⟩
              have HS6 := Lib.hid (HSc.out wd gS cS hcS HCe)
              clear HSe HSc HCe
              go_wp2_with fail
              refine HS6.out.mono ?_
              rintro e we ⟨x, va, vn, vd, rfl, HRs, HBe⟩
              have HBce : Hid (Below w13.heap.size w13 we) := Lib.hid (HBd.out.trans (HBe.out.mono HBd.out.size))
              have hvn : vn ≤ 1000 := by have := HRs.out.1; rw [List.length_map] at this; omega
              have HBy := Lib.hid (bytes_x va vn vd _ we HRs.out hvn)
              clear HS6 HBd HBe HRs
              go_wp2_with fail
              refine HBy.out.mono ?_
              rintro e wf ⟨rw0, rfl, HRe, HBf⟩
              obtain ⟨ra2, rn2, rc2, rfl, hRb2⟩ := rowb_recs HRe.out
              have HBcf : Hid (Below w13.heap.size w13 wf) := Lib.hid (HBce.out.trans (HBf.out.mono HBce.out.size))
              have HSm2 : Hid (Calls Tryd.prog 19 #[.slice ra2 rn2 rc2, (.slice none 0 0)] wf fun e w' => e = .returned (.bool true) ∧ Hid (Below wf.heap.size wf w')) := Lib.hid (by
                obtain ⟨sa, sn, sc, hse, hRo⟩ := rows_own (got_below HGc.out HBcf.out).1 (got_below HGc.out HBcf.out).2.1
                rw [hse]
                refine same_any ra2 rn2 rc2 _ sa sn sc _ wf hRb2 hRo (by have := hRb2.1; rw [List.length_map, List.length_map] at this; omega) (by have := hRo.1; rw [List.length_map] at this; omega) true ⟨fun _ => ?_, fun _ => rfl⟩
                rw [List.map_map]
                exact (List.map_congr_left fun s _ => Fw.sv_bytesOf s).trans (List.map_id _))
              clear HBy HRe hRb2 HBce HBf
              go_wp2_with fail
              refine HSm2.out.mono ?_
              rintro e wg ⟨rfl, HBg⟩
              have HBcg : Hid (Below w13.heap.size w13 wg) := Lib.hid (HBcf.out.trans (HBg.out.mono HBcf.out.size))
              have HSz := Lib.hid (sq_below HSqc.out HBcg.out)
              have HGz := Lib.hid (got_below HGc.out HBcg.out)
              have HBzz : Hid (Below wz.heap.size wz wg) := Lib.hid (HBc.out.trans (HBcg.out.mono HBc.out.size))
              clear HSm2 HBg HBcf HBcg HSqc HGc HBc
              go_wp2_with fail
              go_roundw
              case rel => exact ⟨j + 1, l, (ag + 1), 12, _, [], rfl, by go_num, by go_num, rfl, by go_num, by omega, by omega, hlen, by omega, HSz, HGz, HBzz⟩
              case measure => simp [intOf]; omega
            · have hv2I : ¬ (v0 = (2 : Int)) := hv2
              by_cases hv3 : v0 = 3
              · subst hv3
                have HOp := Lib.hid (sq_open HSq.out)
                go_wp2_with fail
                refine HOp.out.mono ?_
                rintro e w13 ⟨l', ra, rn, rc, rfl, HRb, HS13, HB13⟩
                have HSqo : Hid (∀ W, Below w13.heap.size w13 W → Sq wz.heap.size W g l' ag left bs (20 + 20 * (j + 1))) := Lib.hid fun W hW => sq_mono (sq_below HS13.out hW) (by omega)
                have HGo : Hid (∀ W, Below w13.heap.size w13 W → Got W g wz.heap.size hv (bs.map Fc.sv)) := Lib.hid fun W hW => by rw [hss]; exact got_below (got_below HGt.out HB13.out) hW
                have HBo : Hid (Below wz.heap.size wz w13) := Lib.hid (HBw.out.trans (HB13.out.mono HBw.out.size))
                have HSm : Hid (Calls Tryd.prog 19 #[.slice ra rn rc, hv] w13 fun e w' => e = .returned (.bool true) ∧ Hid (Below w13.heap.size w13 w')) := Lib.hid (by
                  obtain ⟨sa, sn, sc, hse, hRo⟩ := rows_own (HGo.out w13 (Below.refl _ _)).1 (HGo.out w13 (Below.refl _ _)).2.1
                  rw [hse]
                  exact same_any ra rn rc bs sa sn sc _ w13 HRb.out hRo (by have := HRb.out.1; omega) (by have := hRo.1; rw [List.length_map] at this; omega) true ⟨fun _ => rfl, fun _ => rfl⟩)
                clear HOp HSq HGt HOw HBw y0 HS13 HB13 HRb
                go_wp2_with fail
                refine HSm.out.mono ?_
                rintro e w16 ⟨rfl, HB16⟩
                have HSqc := Lib.hid (HSqo.out w16 HB16.out)
                have HGc := Lib.hid (HGo.out w16 HB16.out)
                have HBc : Hid (Below wz.heap.size wz w16) := Lib.hid (HBo.out.trans (HB16.out.mono HBo.out.size))
                clear HSm HSqo HGo HBo HB16
                go_wp2_with fail
                obtain ⟨ns, hfl, hse, hsc⟩ := sq_scan HSqc.out
                have HSe := Lib.hid hse
                have HSc := Lib.hid hsc
                have hlen : (bs : List (List Nat)).length ≤ j + 1 := by omega
                clear hse hsc
                refine HSe.out.mono ?_
                rintro e wd ⟨gS, cS, rfl, hcS, HCe, HBd⟩
                have HS6 := Lib.hid (HSc.out wd gS cS hcS HCe)
                clear HSe HSc HCe
                go_wp2_with fail
                refine HS6.out.mono ?_
                rintro e we ⟨x, va, vn, vd, rfl, HRs, HBe⟩
                have HBce : Hid (Below w16.heap.size w16 we) := Lib.hid (HBd.out.trans (HBe.out.mono HBd.out.size))
                have hvn : vn ≤ 1000 := by have := HRs.out.1; rw [List.length_map] at this; omega
                have HBy := Lib.hid (bytes_x va vn vd _ we HRs.out hvn)
                clear HS6 HBd HBe HRs
                go_wp2_with fail
                refine HBy.out.mono ?_
                rintro e wf ⟨rw0, rfl, HRe, HBf⟩
                obtain ⟨ra2, rn2, rc2, rfl, hRb2⟩ := rowb_recs HRe.out
                have HBcf : Hid (Below w16.heap.size w16 wf) := Lib.hid (HBce.out.trans (HBf.out.mono HBce.out.size))
                have HSm2 : Hid (Calls Tryd.prog 19 #[.slice ra2 rn2 rc2, hv] wf fun e w' => e = .returned (.bool true) ∧ Hid (Below wf.heap.size wf w')) := Lib.hid (by
                  obtain ⟨sa, sn, sc, hse, hRo⟩ := rows_own (got_below HGc.out HBcf.out).1 (got_below HGc.out HBcf.out).2.1
                  rw [hse]
                  refine same_any ra2 rn2 rc2 _ sa sn sc _ wf hRb2 hRo (by have := hRb2.1; rw [List.length_map, List.length_map] at this; omega) (by have := hRo.1; rw [List.length_map] at this; omega) true ⟨fun _ => ?_, fun _ => rfl⟩
                  rw [List.map_map]
                  exact (List.map_congr_left fun s _ => Fw.sv_bytesOf s).trans (List.map_id _))
                clear HBy HRe hRb2 HBce HBf
                go_wp2_with fail
                refine HSm2.out.mono ?_
                rintro e wg ⟨rfl, HBg⟩
                have HBcg : Hid (Below w16.heap.size w16 wg) := Lib.hid (HBcf.out.trans (HBg.out.mono HBcf.out.size))
                have HSz := Lib.hid (sq_below HSqc.out HBcg.out)
                have HGz := Lib.hid (got_below HGc.out HBcg.out)
                have HBzz : Hid (Below wz.heap.size wz wg) := Lib.hid (HBc.out.trans (HBcg.out.mono HBc.out.size))
                clear HSm2 HBg HBcf HBcg HSqc HGc HBc
                go_wp2_with fail
                go_roundw
                case rel => exact ⟨j + 1, l', ag, left, _, bs, rfl, by go_num, by go_num, rfl, by go_num, by omega, by omega, hlen, by omega, HSz, HGz, HBzz⟩
                case measure => simp [intOf]; omega
              · have hv3I : ¬ (v0 = (3 : Int)) := hv3
                have HSqc : Hid (Sq wz.heap.size wb g l ag left bs (20 + 20 * (j + 1))) := Lib.hid (sq_mono HSq.out (by omega))
                have HGc : Hid (Got wb g wz.heap.size hv (bs.map Fc.sv)) := Lib.hid (by rw [hss]; exact HGt.out)
                have HBc := HBw
                clear HSq HGt HOw HBw
                go_wp2_with fail
                obtain ⟨ns, hfl, hse, hsc⟩ := sq_scan HSqc.out
                have HSe := Lib.hid hse
                have HSc := Lib.hid hsc
                have hlen : (bs : List (List Nat)).length ≤ j + 1 := by omega
                clear hse hsc
                refine HSe.out.mono ?_
                rintro e wd ⟨gS, cS, rfl, hcS, HCe, HBd⟩
                have HS6 := Lib.hid (HSc.out wd gS cS hcS HCe)
                clear HSe HSc HCe
                go_wp2_with fail
                refine HS6.out.mono ?_
                rintro e we ⟨x, va, vn, vd, rfl, HRs, HBe⟩
                have HBce : Hid (Below wb.heap.size wb we) := Lib.hid (HBd.out.trans (HBe.out.mono HBd.out.size))
                have hvn : vn ≤ 1000 := by have := HRs.out.1; rw [List.length_map] at this; omega
                have HBy := Lib.hid (bytes_x va vn vd _ we HRs.out hvn)
                clear HS6 HBd HBe HRs
                go_wp2_with fail
                refine HBy.out.mono ?_
                rintro e wf ⟨rw0, rfl, HRe, HBf⟩
                obtain ⟨ra2, rn2, rc2, rfl, hRb2⟩ := rowb_recs HRe.out
                have HBcf : Hid (Below wb.heap.size wb wf) := Lib.hid (HBce.out.trans (HBf.out.mono HBce.out.size))
                have HSm2 : Hid (Calls Tryd.prog 19 #[.slice ra2 rn2 rc2, hv] wf fun e w' => e = .returned (.bool true) ∧ Hid (Below wf.heap.size wf w')) := Lib.hid (by
                  obtain ⟨sa, sn, sc, hse, hRo⟩ := rows_own (got_below HGc.out HBcf.out).1 (got_below HGc.out HBcf.out).2.1
                  rw [hse]
                  refine same_any ra2 rn2 rc2 _ sa sn sc _ wf hRb2 hRo (by have := hRb2.1; rw [List.length_map, List.length_map] at this; omega) (by have := hRo.1; rw [List.length_map] at this; omega) true ⟨fun _ => ?_, fun _ => rfl⟩
                  rw [List.map_map]
                  exact (List.map_congr_left fun s _ => Fw.sv_bytesOf s).trans (List.map_id _))
                clear HBy HRe hRb2 HBce HBf
                go_wp2_with fail
                refine HSm2.out.mono ?_
                rintro e wg ⟨rfl, HBg⟩
                have HBcg : Hid (Below wb.heap.size wb wg) := Lib.hid (HBcf.out.trans (HBg.out.mono HBcf.out.size))
                have HSz := Lib.hid (sq_below HSqc.out HBcg.out)
                have HGz := Lib.hid (got_below HGc.out HBcg.out)
                have HBzz : Hid (Below wz.heap.size wz wg) := Lib.hid (HBc.out.trans (HBcg.out.mono HBc.out.size))
                clear HSm2 HBg HBcf HBcg HSqc HGc HBc
                go_wp2_with fail
                go_roundw
                case rel => exact ⟨j + 1, l, ag, left, _, bs, rfl, by go_num, by go_num, rfl, by go_num, by omega, by omega, hlen, by omega, HSz, HGz, HBzz⟩
                case measure => simp [intOf]; omega
      · obtain rfl : j = 20 := by omega
        have hltI : ((20 : Nat) : Int) < (len0 : Int) := by omega
        go_wp2_with fail
        go_ret
        exact ⟨rfl, HBz.out.trans (hbw.out.mono HBz.out.size)⟩
    · have hltI : ¬ ((j : Int) < (len0 : Int)) := by omega
      go_wp2_with fail
      go_ret
      exact ⟨rfl, HBz.out.trans (hbw.out.mono HBz.out.size)⟩
end Go.Proofs.YtfhgdcljhncjmaaDoor
