/- No log; an own row that grows beside a log; texts as rows of bytes. -/
import Derived.Test.YtfhgdcljhncjmaaDoorWalSD
import Derived.Test.YtfhgdcljhncjmaaDoorWalLC
namespace Go.Proofs.YtfhgdcljhncjmaaDoor
open Go.ChangeShapes Go.WideShapes Go.ChangeAt Go.RowKit
set_option linter.unusedVariables false
set_option maxRecDepth 20000

theorem none_any (w : World) : Calls Tryd.prog 11 #[] w fun e w' => e = .returned (.pointer none) ∧ w = w' := by
  go_enter Tryd.func11, Tryd.ntmps11
  go_wp2_with fail
  go_ret
  exact ⟨rfl, rfl⟩
theorem append_nil (w : World) : Calls Tryd.prog 12 #[.pointer none, .slice none 0 0] w fun e w' => e = .returned (.int .i64 1) ∧ w = w' := by
  go_enter Tryd.func12, Tryd.ntmps12
  go_wp2_with fail
  go_ret
  exact ⟨rfl, rfl⟩
theorem trunc_nil (w : World) : Calls Tryd.prog 13 #[.pointer none] w fun e w' => e = .returned (.int .i64 1) ∧ w = w' := by
  go_enter Tryd.func13, Tryd.ntmps13
  go_wp2_with fail
  go_ret
  exact ⟨rfl, rfl⟩
theorem age_nil (w : World) : Calls Tryd.prog 14 #[.pointer none] w fun e w' => e = .returned (.int .i64 0) ∧ w = w' := by
  go_enter Tryd.func14, Tryd.ntmps14
  go_wp2_with fail
  go_ret
  exact ⟨rfl, rfl⟩
theorem room_nil (w : World) : Calls Tryd.prog 15 #[.pointer none] w fun e w' => e = .returned (.int .i64 (-1)) ∧ Below w.heap.size w w' := by
  go_enter Tryd.func15, Tryd.ntmps15
  go_wp2_with fail
  go_quiet (fail)
  go_wp2_with fail
  go_ret
  exact ⟨rfl, Fc.below_drewN (Below.refl _ _) _⟩
/-- a block that isn't the disk's, nor a log's -/
def Side (B g : Nat) (w : World) (row : Option Nat) : Prop := ∀ q, row = some q → B ≤ q ∧ Foe g q w ∧ ∃ cs t fr, w.heap[q]? = some (.cells cs t fr) ∧ t ≠ 71 ∧ t ≠ 92
theorem da_side {B : Nat} {w w' : World} {g L k : Nat} {s : Dst} {row : Option Nat} (h : Da B w g L s k) (ho : Fk.Only (fun q => row = some q) w w') (hs : Side B g w row) : Da B w' g L s k := by
  obtain ⟨gn, gl, cn, cl, vw, st, h1, h2⟩ := h
  obtain ⟨⟨c1, f1, t1⟩, _⟩ := dk_types h1
  refine ⟨gn, gl, cn, cl, vw, st, ⟨Fk.head_only h1.head ho fun e => ?_, Fk.own_only h1.now ho fun q hq e => ?_, Fk.own_only h1.rows ho fun q hq e => ?_, Fk.own_only h1.own ho fun q hq e => ?_, h1.ge, h1.ne⟩, h2⟩
  · obtain ⟨_, _, cs, t, fr, k1, _, k2⟩ := hs _ e
    rw [t1] at k1
    cases k1
    exact k2 rfl
  · cases hq
    exact (foe_dk h1 (hs _ e).2.1).1 rfl
  · cases hq
    exact (foe_dk h1 (hs _ e).2.1).2.1 rfl
  · exact (foe_dk h1 (hs _ e).2.1).2.2 hq
theorem lg_side {B : Nat} {w w' : World} {g l L : Nat} {s : Dst} {f en : Nat} {ag : Int} {hd : Nat} {bs : List (List Nat)} {p k : Nat} {row : Option Nat} (h : Lg B w g l L s f en ag hd bs p k) (ho : Fk.Only (fun q => row = some q) w w') (hs : Side B g w row) : Lg B w' g l L s f en ag hd bs p k := by
  refine ⟨da_side h.da ho hs, h.w0, h.inv, ?_, h.lb, tab_keep h.gb h.tab (ho.below (fun q e => (hs q e).1) h.size), h.enL, h.gb⟩
  have hl := h.log
  unfold LogAt at hl ⊢
  rw [ho.block l (Array.getElem?_eq_some_iff.1 hl).1 fun e => ?_]
  · exact hl
  · obtain ⟨_, _, cs, t, fr, k1, k2, _⟩ := hs _ e
    rw [hl] at k1
    cases k1
    exact k2 rfl
theorem foe_keep {w w' : World} {g q : Nat} (hf : Foe g q w) (hg : w'.heap[g]? = w.heap[g]?) : Foe g q w' := by
  obtain ⟨vn, vl, vw, st, ar, le, off, hh, h2⟩ := hf
  refine ⟨vn, vl, vw, st, ar, le, off, ?_, h2⟩
  unfold Fk.Head at hh ⊢
  rw [hg]; exact hh
/-- a row of bytes isn't the disk's -/
theorem foe_u8 {B : Nat} {w : World} {g L k : Nat} {s : Dst} (h : Da B w g L s k) {q : Nat} {cs : Array Value} {fr : Nat × Nat} (hq : w.heap[q]? = some (.cells cs 5 fr)) : Foe g q w := by
  obtain ⟨gn, gl, cn, cl, vw, st, h1, _⟩ := h
  obtain ⟨_, ⟨c2, t2⟩, ⟨c3, t3⟩, t4⟩ := dk_types h1
  refine foe_mk h1 (fun e => ?_) (fun e => ?_) fun e => ?_
  · rw [e, t2] at hq; exact absurd hq (by simp)
  · rw [e, t3] at hq; exact absurd hq (by simp)
  · obtain ⟨c4, t5⟩ := t4 q e
    rw [t5] at hq; exact absurd hq (by simp)
theorem got_side {B g : Nat} {w : World} {v : Value} {ss : List ByteArray} (h : Got w g B v ss) : Side B g w v.ownBlock := fun q hq => by
  obtain ⟨h1, _, h3⟩ := h
  obtain ⟨cur, hc⟩ := own_blk h1 hq
  refine ⟨?_, h3 q hq, _, _, _, hc, by decide, by decide⟩
  rcases h1.2 with ⟨h0, _⟩ | ⟨g', cap, cur', hv, hb, _⟩
  · rw [h0] at hq; cases hq
  · rw [hv] at hq; cases hq; exact hb
theorem u8_side {B b g : Nat} {w : World} {L k : Nat} {s : Dst} (hd : Da B w g L s k) {v : Value} {n : Nat} {xs : List Value} (h : w.ownsRow b 5 1 v n xs) (hb : B ≤ b) : Side B g w v.ownBlock := fun q hq => by
  obtain ⟨cur, hc⟩ := own_blk h hq
  refine ⟨?_, foe_u8 hd hc, _, _, _, hc, by decide, by decide⟩
  rcases h.2 with ⟨h0, _⟩ | ⟨g', cap, cur', hv, hb', _⟩
  · rw [h0] at hq; cases hq
  · rw [hv] at hq; cases hq; exact Nat.le_trans hb hb'
/-- a text behind those that were gathered -/
theorem got_more {B g L k : Nat} {s : Dst} {w : World} {v : Value} {ss : List ByteArray} (hd : Da B w g L s k) (hg : Got w g B v ss) (ad : Addr) (t : ByteArray) (hc : w.cell? ad = some (.string t)) (hn : ss.length ≤ 1000) (ty : TypeId) :
    ∃ v' w', (Builtin.append_ #[33, 33] ty #[v, .slice (some ad) 1 1]).run Tryd.prog w = .ok v' w' ∧ Got w' g B v' (ss ++ [t]) ∧ w.grownBy w' v.ownBlock := by
  obtain ⟨i0, hi, he⟩ := Option.map_eq_some_iff.1 info_str
  have hz0 : i0.zero = some (.string ⟨#[]⟩) := congrArg Prod.fst he
  have hz1 : i0.size = 1 := congrArg (fun x => x.2.1) he
  have hz2 : i0.bytes = 16 := congrArg (fun x => x.2.2) he
  have hB := (da_lt hd).2.2
  have hnews : ∀ j u, (Fk.strs [t])[j]? = some u → w.cell? (ad.add j) = some u := fun j u hj => by
    have hlt : j < 1 := (List.getElem?_eq_some_iff.1 hj).1
    obtain rfl : j = 0 := by omega
    cases hj
    rw [Addr.add_zero']
    exact hc
  have h1 : ∀ u ∈ Fk.strs [t], u.oneCell' = true := fun u hu => by
    obtain ⟨s, _, rfl⟩ := List.mem_map.1 hu
    rfl
  obtain ⟨v1, w1, hr1, a1, a2, _⟩ := run_append_own (P := Tryd.prog) w B 33 ty 9 i0 _ 1 16 Tryd.underlying33 hi hz0 hz1 hz2 rfl (by decide) v ss.length _ hg.1 ad 1 1 (Fk.strs [t]) rfl hnews h1 (by unfold maxLen; omega) (by omega) hB
  obtain ⟨v2, w2, hr2, _, _, hor⟩ := Fk.run_append_place (P := Tryd.prog) w 33 ty 9 i0 _ 1 16 Tryd.underlying33 hi hz0 hz1 hz2 rfl (by decide) v ss.length _ (Fk.own_base hg.1 (Nat.zero_le _)) ad 1 1 (Fk.strs [t]) rfl hnews h1 (by unfold maxLen; omega) (by omega)
  rw [hr1] at hr2
  cases hr2
  have hgg : w1.heap[g]? = w.heap[g]? := a2.block g (da_lt hd).1 fun e => by
    obtain ⟨_, _, cs, t, fr, k1, _, k2⟩ := got_side hg g e.symm
    obtain ⟨c0, f0, t0⟩ := da_type hd
    rw [t0] at k1
    cases k1
    exact k2 rfl
  refine ⟨v1, w1, hr1, ⟨?_, fun e => absurd e (by simp), fun q hq => ?_⟩, a2⟩
  · have e1 : Fk.strs (ss ++ [t]) = Fk.strs ss ++ Fk.strs [t] := List.map_append ..
    rw [e1, List.length_append]
    exact a1
  · refine foe_keep ?_ hgg
    rcases hor with ho | ho
    · rw [ho] at hq
      exact hg.2.2 q hq
    · refine da_foe hd ?_
      rcases ho.2 with ⟨h0, _⟩ | ⟨g', cap, cur, hv, hb, _⟩
      · rw [h0] at hq; cases hq
      · rw [hv] at hq; cases hq; exact hb
/-- bytes that came in, copied -/
theorem run_bytes_nil (w : World) (k : Nat) (ty : TypeId) : (Builtin.append_ #[34, 34] ty #[.slice (some ⟨k, 0, none⟩) 0 0, .slice none 0 0]).run Tryd.prog w = .ok (.slice (some ⟨k, 0, none⟩) 0 0) w := by
  obtain ⟨i0, hi, hz0, hz1, hz2⟩ := info_parts Fw.info8
  simp [Builtin.append_, run_underlying Tryd.underlying34, sizeOf, typeInfo, hi, Builtin.lenOf, run_firstCells_none, storeCells]
theorem copy_bytes (w : World) (sp : Option Addr) (q c : Nat) (L : List Nat) (hL : L.length = q) (hq : q ≤ 100000) (hs : Fc.Src w sp L) (hz : sp = none → c = 0) (k : Nat) (hk : w.heap.size = k) (ty : TypeId) :
    ∃ ba bc w', (Builtin.append_ #[34, 34] ty #[.slice (some ⟨k, 0, none⟩) 0 0, .slice sp q c]).run Tryd.prog (w.alloc (.cells #[] 5)) = .ok (.slice ba q bc) w' ∧ w'.ownsRow w.heap.size 5 1 (.slice ba q bc) q (Fw.cells L) ∧ Below w.heap.size w w' := by
  subst hk
  have hal : Below w.heap.size w (w.alloc (.cells #[] 5)) := (Below.refl _ _).alloc (Nat.le_refl _) _
  have hown : (w.alloc (.cells #[] 5)).ownsRow w.heap.size 5 1 (.slice (some ⟨w.heap.size, 0, none⟩) 0 0) 0 [] := Fc.owns_new w
  cases sp with
  | none =>
    obtain rfl := hz rfl
    have h0 : L = [] := by
      cases L with
      | nil => rfl
      | cons x t =>
        obtain ⟨g, o, e, _⟩ := hs (by simp)
        cases e
    subst h0
    subst hL
    exact ⟨_, _, _, run_bytes_nil _ _ _, hown, hal⟩
  | some ad =>
    obtain ⟨i0, hi, hz0, hz1, hz2⟩ := info_parts Fw.info8
    obtain ⟨v', w', hr, a1, a2, _⟩ := run_append_own (P := Tryd.prog) _ w.heap.size 34 ty 5 i0 (.int .u8 0) 1 1 Tryd.underlying34 hi hz0 hz1 hz2 rfl (by decide) _ 0 [] hown ad q c (Fw.cells L) (by rw [Fw.cells_len, hL, Nat.mul_one]) (fun j u hj => by
      have hlt : j < L.length := by have := (List.getElem?_eq_some_iff.1 hj).1; rwa [Fw.cells_len] at this
      obtain ⟨g, o, e, hcc⟩ := hs (by omega)
      cases e
      have h3 := hcc j hlt
      rw [add_off, (hal.cell (World.block_lt_of_cell? w _ h3)), h3]
      rw [← hj]
      simp [Fw.cells, List.getD, hlt]) (Fw.cells_one L) (by unfold maxLen; omega) (by omega) hal.size
    obtain ⟨ba, bc, hv⟩ := own_sl a1
    rw [Nat.zero_add] at hv
    subst hv
    refine ⟨ba, bc, w', hr, by simpa using a1, hal.trans ((Below.refl _ _).grown a2 hal.size fun k hk => ?_)⟩
    cases hk
    exact Nat.le_refl _
theorem recs_add {B lo : Nat} {w : World} {v : Value} {bs : List (List Nat)} (h : RecsAt B lo w v bs) (hB : B ≤ w.heap.size) (b : List Nat) (gr cr : Nat) (ad : Addr) (hgr : lo < gr) (hs : Fc.Src w (some ⟨gr, 0, none⟩) b) (hk : w.cell? ad = some (.slice (some ⟨gr, 0, none⟩) b.length cr)) (hn : bs.length ≤ 1000) (ty : TypeId) :
    ∃ v' w', (Builtin.append_ #[38, 38] ty #[v, .slice (some ad) 1 1]).run Tryd.prog w = .ok v' w' ∧ RecsAt B lo w' v' (bs ++ [b]) ∧ Below B w w' := by
  obtain ⟨vals, h1, h2, h3, h4⟩ := h
  obtain ⟨i0, hi, hz0, hz1, hz2⟩ := info_parts infoB
  have hvl : vals.length = bs.length := by simpa using h1.1
  obtain ⟨v', w', hr, a1, a2, _⟩ := run_append_own (P := Tryd.prog) w B 38 ty 34 i0 _ 1 24 Tryd.underlying38 hi hz0 hz1 hz2 rfl (by decide) v bs.length vals h1 ad 1 1 [.slice (some ⟨gr, 0, none⟩) b.length cr] rfl (fun j u hj => by
    have hlt : j < 1 := (List.getElem?_eq_some_iff.1 hj).1
    obtain rfl : j = 0 := by omega
    cases hj
    rw [Addr.add_zero']
    exact hk) (fun u hu => by rw [List.mem_singleton.1 hu]; rfl) (by unfold maxLen; omega) (by omega) hB
  have hz : bs.length = 0 → v = .slice none 0 0 := fun e => h2 (List.eq_nil_of_length_eq_zero e)
  refine ⟨v', w', hr, ⟨vals ++ [.slice (some ⟨gr, 0, none⟩) b.length cr], ?_, fun e => absurd e (by simp), fun u hu => ?_, fun i x hx => ?_⟩, (Below.refl B w).grown a2 hB fun k hk => ?_⟩
  · rw [List.length_append]
    exact a1
  · rcases List.mem_append.1 hu with hu | hu
    · exact h3 u hu
    · exact ⟨_, _, _, List.mem_singleton.1 hu⟩
  · by_cases hlt : i < bs.length
    · rw [List.getElem?_append_left hlt] at hx
      obtain ⟨gx, cx, b1, b2, b3⟩ := h4 i x hx
      exact ⟨gx, cx, by rw [List.getElem?_append_left (by omega)]; exact b1, b2, src_grown h1 hz h3 a2 b3⟩
    · have h5 := (List.getElem?_eq_some_iff.1 hx).1
      rw [List.length_append] at h5
      obtain rfl : i = bs.length := by simp at h5; omega
      rw [List.getElem?_append_right (Nat.le_refl _)] at hx
      simp at hx
      subst hx
      exact ⟨gr, cr, by rw [List.getElem?_append_right (by omega), hvl]; simp, hgr, src_grown h1 hz h3 a2 hs⟩
  · rcases h1.2 with ⟨h0, _⟩ | ⟨g', cap, cur, hv, hg, _⟩
    · rw [h0] at hk; cases hk
    · rw [hv] at hk; cases hk; exact hg
set_option maxHeartbeats 4000000 in
theorem bytes_x (a : Option Addr) (n c : Nat) (ss : List ByteArray) (w : World) (hR : RowS w a n ss) (hn : n ≤ 1000) :
    Calls Tryd.prog 22 #[.slice a n c] w fun e w' => ∃ v, e = .returned v ∧ Hid (RecsAt w.heap.size 0 w' v (ss.map Fw.bytesOf)) ∧ Hid (Below w.heap.size w w') := by
  have HR := Lib.hid hR
  have HLen := Lib.hid hR.1
  clear hR
  go_enter Tryd.func22, Tryd.ntmps22
  go_wp2_with fail
  go_loopw [3, 4] (fun o i wr => ∃ (j : Nat) (v : Value), v = o ∧ i = .int .i64 (j : Int) ∧ j ≤ n ∧ Hid (RecsAt w.heap.size 0 wr v ((ss.take j).map Fw.bytesOf)) ∧ Hid (Below w.heap.size w wr)) (fun _ i _ => n - (intOf i).toNat)
  case atStart => exact ⟨0, _, rfl, rfl, by omega, Lib.hid ⟨[], World.ownsRow_nil _ _ _ _, fun _ => rfl, (fun u hu => by cases hu), fun i b hb => by simp at hb⟩, Lib.hid (Below.refl _ _)⟩
  case round =>
    obtain ⟨j, v, rfl, rfl, hj, HRe, HB2⟩ := hrel
    obtain ⟨wo, rfl⟩ : ∃ wo : World, wo = wr := ⟨_, rfl⟩
    by_cases hlt : j < n
    · have hltI : (j : Int) < (n : Int) := by omega
      have hw1 : IntKind.i64.wrap ((j : Int) + 1) = ((j + 1 : Nat) : Int) := by rw [IntKind.wrap_i64]; omega
      have e1 : ss[j]? = some (ss[j]'(by have := HLen.out; omega)) := List.getElem?_eq_getElem _
      obtain ⟨t, ht⟩ : ∃ t, ss[j]'(by have := HLen.out; omega) = t := ⟨_, rfl⟩
      rw [ht] at e1
      obtain ⟨gS, rfl, c0⟩ := (rows_below HR.out HB2.out).2 j t e1
      have hpos : 0 < w.heap.size := by
        obtain ⟨gS', e, c1⟩ := HR.out.2 j t e1
        have := World.block_lt_of_cell? w _ c1
        omega
      have kc := fun W => Lib.run_convert_string_bytes (P := Tryd.prog) W 9 34 5 t Tryd.underlying9 Tryd.underlying34 Tryd.underlying5
      obtain ⟨r1, r2, r3⟩ := Fk.read_world wo 5 t
      have hal : Below (Lib.bytesWorld wo 5 t).heap.size (Lib.bytesWorld wo 5 t) ((Lib.bytesWorld wo 5 t).alloc (.cells #[.slice (some ⟨wo.heap.size, 0, none⟩) t.size (grownCap wo t.size 0 5)] 34)) := (Below.refl _ _).alloc (Nat.le_refl _) _
      have hsrc : Fc.Src (Lib.bytesWorld wo 5 t) (some ⟨wo.heap.size, 0, none⟩) (Fw.bytesOf t) := (row_text 0 wo t).src
      have hall := r3.trans (hal.mono r3.size)
      obtain ⟨v', w', hrun, hre, hbe⟩ := recs_add (recs_below HRe.out hall) (Nat.le_trans HB2.out.size hall.size) (Fw.bytesOf t) wo.heap.size (grownCap wo t.size 0 5) ⟨(Lib.bytesWorld wo 5 t).heap.size, 0, none⟩ (Nat.lt_of_lt_of_le hpos HB2.out.size) (Fc.src_later hsrc hal) (by
        rw [Fw.bytesOf_len]
        have h9 : ((Lib.bytesWorld wo 5 t).alloc (.cells #[.slice (some ⟨wo.heap.size, 0, none⟩) t.size (grownCap wo t.size 0 5)] 34)).heap[(Lib.bytesWorld wo 5 t).heap.size]? = _ := al_new _ _ _ rfl
        simp only [World.cell?, h9]
        rfl) (by rw [List.length_map, List.length_take]; omega) 38
      have HRn : Hid (RecsAt w.heap.size 0 w' v' ((ss.take (j + 1)).map Fw.bytesOf)) := Lib.hid (by
        have e2 : ss.take (j + 1) = ss.take j ++ [t] := by rw [List.take_add_one, e1]; rfl
        rw [e2, List.map_append]
        exact hre)
      have HBn : Hid (Below w.heap.size w w') := Lib.hid ((HB2.out.trans (hall.mono HB2.out.size)).trans hbe)
      clear hre hbe hall hsrc hal r1 r2 r3 e1 ht HRe
      go_wp2_with (at_builtin; refine Lib.wpList_append_run _ rfl _ _ _ _ rfl _ _ rfl rfl _ _ hrun ?_)
      go_roundw
      case rel => exact ⟨j + 1, v', rfl, by go_num, by omega, HRn, HBn⟩
      case measure => simp [intOf]; omega
    · obtain rfl : j = n := by omega
      have hltI : ¬ ((j : Int) < (j : Int)) := by omega
      have HRz : Hid (RecsAt w.heap.size 0 wo v (ss.map Fw.bytesOf)) := Lib.hid (by
        have h1 := HRe.out
        rw [List.take_of_length_le (by rw [HLen.out]; exact Nat.le_refl _)] at h1
        exact h1)
      clear HRe
      go_wp2_with fail
      go_ret
      exact ⟨_, rfl, HRz, HB2⟩
end Go.Proofs.YtfhgdcljhncjmaaDoor
