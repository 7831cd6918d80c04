/- Open: of whatever sectors. -/
import Derived.Test.YtfhgdcljhncjmaaDoorWalY
namespace Go.Proofs.YtfhgdcljhncjmaaDoor
open Go.ChangeShapes Go.WideShapes Go.ChangeAt Go.RowKit
set_option linter.unusedVariables false
set_option maxRecDepth 20000

/-- the records that stand one behind the other from p0 on, as many as j; where the next one would stand; its number -/
def scn (ns : List ByteArray) (p0 en : Nat) (ag : Int) : Nat → List (List Nat) × Nat × Nat
  | 0 => ([], p0, 0)
  | j + 1 => match readS ns (scn ns p0 en ag j).2.1 en ag ((scn ns p0 en ag j).2.2 : Int) with
    | some b => ((scn ns p0 en ag j).1 ++ [b], (scn ns p0 en ag j).2.1 + need b.length, (scn ns p0 en ag j).2.2 + 1)
    | none => scn ns p0 en ag j
theorem scn_more {ns : List ByteArray} {p0 en : Nat} {ag : Int} {j : Nat} {bs : List (List Nat)} {q m : Nat} {b : List Nat} (h : scn ns p0 en ag j = (bs, q, m)) (hr : readS ns q en ag (m : Int) = some b) : scn ns p0 en ag (j + 1) = (bs ++ [b], q + need b.length, m + 1) := by
  rw [scn, h]
  simp only
  rw [hr]
/-- rows of bytes, in a row -/
def RecsAt (B lo : Nat) (w : World) (v : Value) (bs : List (List Nat)) : Prop :=
  ∃ vals, w.ownsRow B 34 1 v bs.length vals ∧ (bs = [] → v = .slice none 0 0) ∧ (∀ u ∈ vals, ∃ a n c, u = Value.slice a n c) ∧ ∀ (i : Nat) b, bs[i]? = some b → ∃ gr cr, vals[i]? = some (.slice (some ⟨gr, 0, none⟩) b.length cr) ∧ lo < gr ∧ Fc.Src w (some ⟨gr, 0, none⟩) b
theorem infoB : (Tryd.prog.info? 34).map (fun i => (i.zero, i.size, i.bytes)) = some (some (.slice none 0 0), 1, 24) := by kernel_rfl
theorem recs_below {B lo : Nat} {w w' : World} {v : Value} {bs : List (List Nat)} (h : RecsAt B lo w v bs) (hb : Below w.heap.size w w') : RecsAt B lo w' v bs := by
  obtain ⟨vals, h1, h2, h3, h4⟩ := h
  refine ⟨vals, Fk.own_only h1 (Fk.Only.of_below (S := fun _ => False) hb) (fun _ _ x => x), h2, h3, fun i b hi => ?_⟩
  obtain ⟨gr, cr, a, c, d⟩ := h4 i b hi
  exact ⟨gr, cr, a, c, Fc.src_later d hb⟩
theorem src_only0 {w w' : World} {gr l : Nat} {b : List Nat} (h : Fc.Src w (some ⟨gr, 0, none⟩) b) (ho : Fk.Only (· = l) w w') (hne : gr ≠ l) : Fc.Src w' (some ⟨gr, 0, none⟩) b := fun hp => by
  obtain ⟨g, o, e, hc⟩ := h hp
  cases e
  refine ⟨gr, 0, rfl, fun i hi => ?_⟩
  have h1 := hc i hi
  have h2 := World.block_lt_of_cell? w _ h1
  have h3 := ho.block gr h2 hne
  unfold World.cell? at h1 ⊢
  simp only at h1 ⊢
  rw [h3]
  exact h1
theorem recs_only {B lo l : Nat} {w w' : World} {v : Value} {bs : List (List Nat)} (h : RecsAt B lo w v bs) (ho : Fk.Only (· = l) w w') (hl : ∃ cs fr, w.heap[l]? = some (.cells cs 71 fr)) (hlo : l ≤ lo) : RecsAt B lo w' v bs := by
  obtain ⟨vals, h1, h2, h3, h4⟩ := h
  obtain ⟨c0, f0, hl⟩ := hl
  refine ⟨vals, Fk.own_only h1 ho (fun q hq e => ?_), h2, h3, fun i b hi => ?_⟩
  · obtain ⟨cur, hc⟩ := own_blk h1 hq
    rw [e, hl] at hc
    exact absurd hc (by simp)
  · obtain ⟨gr, cr, a, c, d⟩ := h4 i b hi
    exact ⟨gr, cr, a, c, src_only0 d ho (by omega)⟩
theorem src_grown {B : Nat} {w w' : World} {v : Value} {n : Nat} {vals : List Value} (h : w.ownsRow B 34 1 v n vals) (h2 : n = 0 → v = .slice none 0 0) (h3 : ∀ u ∈ vals, ∃ a n c, u = Value.slice a n c) (hg : w.grownBy w' v.ownBlock) {gr : Nat} {b : List Nat} (hs : Fc.Src w (some ⟨gr, 0, none⟩) b) : Fc.Src w' (some ⟨gr, 0, none⟩) b := fun hp => by
  obtain ⟨g, o, e, hc⟩ := hs hp
  cases e
  refine ⟨gr, 0, rfl, fun i hi => ?_⟩
  have h1 := hc i hi
  have hlt := World.block_lt_of_cell? w _ h1
  have hne : ¬ v.ownBlock = some gr := fun hv => by
    by_cases hn : n = 0
    · rw [h2 hn] at hv; cases hv
    · obtain ⟨g', cap, rfl⟩ := Fk.own_shape h (by omega)
      obtain rfl : g' = gr := by simpa [Value.ownBlock] using hv
      have hlen := h.1
      have h5 := World.ownsRow.cellAt h 0 (by omega)
      have h6 := hc 0 (by omega)
      rw [Nat.zero_add] at h6
      rw [h6] at h5
      obtain ⟨a, n', c, e⟩ := h3 _ (List.mem_of_getElem? h5.symm)
      cases e
  have h4 := hg.block gr hlt (fun e => hne e.symm)
  unfold World.cell? at h1 ⊢
  simp only at h1 ⊢
  rw [h4]
  exact h1
theorem stAt_int (As : Nat → List Nat) (h : ∀ j, ∀ b ∈ As j, b < 256) : ∀ j, Fw.IntOk (stAt As j).1 ∧ ((stAt As j).2 = 0 ∨ (stAt As j).2 = 1 ∨ 2 ≤ (stAt As j).2)
  | 0 => ⟨show Fw.IntOk 0 by constructor <;> decide, .inl rfl⟩
  | j + 1 => by
    show Fw.IntOk (headStep (stAt As j) (j : Int) (As j)).1 ∧ _
    unfold headStep
    have ih := stAt_int As h j
    rw [stAt]
    unfold headStep
    split
    · exact ⟨rdB_int 1 4611686018427387904 _ (drop_byte (h j) 2), by omega⟩
    · exact ih
theorem dq_grownT {B : Nat} {w w' : World} {g L k : Nat} {ns : List ByteArray} {row : Option Nat} (h : Dq B w g L ns k) (hg : w.grownBy w' row) (hr : ∀ r, row = some r → ∃ cs t fr, w.heap[r]? = some (.cells cs t fr) ∧ ¬ DiskT t) : Dq B w' g L ns k := by
  have ho : Fk.Only (fun q => row = some q) w w' := Fk.Only.grown (Fk.Only.refl _ w) hg (fun k e => e)
  obtain ⟨gn, gl, cn, cl, vw, ls, W, st, h1, h2⟩ := h
  obtain ⟨⟨c1, f1, t1⟩, ⟨c2, t2⟩, ⟨c3, t3⟩, t4⟩ := dk_types h1
  have key : ∀ {q cs t fr}, w.heap[q]? = some (.cells cs t fr) → DiskT t → ¬ row = some q := fun hq ht e => by
    obtain ⟨c0, t0, f0, hl, hn⟩ := hr _ e
    rw [hl] at hq
    cases hq
    exact hn ht
  refine ⟨gn, gl, cn, cl, vw, ls, W, st, ⟨Fk.head_only h1.head ho fun e => key t1 (.inl rfl) e, Fk.own_only h1.now ho fun q hq e => ?_, Fk.own_only h1.rows ho fun q hq e => ?_, Fk.own_only h1.own ho fun q hq e => ?_, h1.ge, h1.ne⟩, h2⟩
  · cases hq; exact key t2 (.inr (.inl rfl)) e
  · cases hq; exact key t3 (.inr (.inl rfl)) e
  · obtain ⟨c4, t5⟩ := t4 q hq
    exact key t5 (.inr (.inr rfl)) e
def slLen : Value → Nat
  | .slice _ n _ => n
  | _ => 0
theorem room_need {b q en : Nat} (hq : q ≠ en) (h : (b : Int) ≤ roomI q en) : q + need b ≤ en := by
  unfold roomI at h
  rw [if_neg hq] at h
  unfold need
  omega
set_option maxHeartbeats 4000000 in
theorem open_any {B : Nat} {w : World} {g L k : Nat} {ns : List ByteArray} (h : Dq B w g L ns k) (hf : Full ns) (f ct : Nat) (hct : 3 ≤ ct) (hfit : f + ct ≤ L) (hL : L ≤ 190) (hG : 0 < B) (ht : Hid (Fc.Tab w)) (ag hd : Int) (hst : stAt (fun j => sb ns (f + j)) 2 = (ag, hd)) :
    Calls Tryd.prog 18 #[.pointer (some ⟨g, 0, none⟩), .int .i64 (f : Int), .int .i64 (ct : Int)] w fun e w' => ((ag = 0 ∧ e = .returned (.tuple #[.pointer none, .slice none 0 0, .int .i64 9])) ∨ (ag ≠ 0 ∧ ∃ (l j q m : Nat) (bs : List (List Nat)) (rs : Value), e = .returned (.tuple #[.pointer (some ⟨l, 0, none⟩), rs, .int .i64 0]) ∧ scn ns (f + 2) (f + ct) ag j = (bs, q, m) ∧ bs.length = m ∧ readS ns q (f + ct) ag (m : Int) = none ∧ w.heap.size ≤ l ∧ q ≤ f + ct ∧ Hid (LogAt w' l g (f : Int) ((f + ct : Nat) : Int) (q : Int) (m : Int) ag hd 0) ∧ Hid (RecsAt (w.heap.size + 1) l w' rs bs))) ∧ Hid (Below w.heap.size w w') := by
  have hnsL := dq_len h
  have hB0 := (dq_lt h).2.2
  obtain ⟨i0, hi, hz0, hz1, hz2⟩ := info_parts infoB
  have HH := Lib.hid (has_ok h f ct hct hfit (by omega))
  have hw1 : IntKind.i64.wrap ((f : Int) + (ct : Int)) = ((f + ct : Nat) : Int) := by rw [IntKind.wrap_i64]; omega
  have hw2 : IntKind.i64.wrap ((f : Int) + 2) = ((f + 2 : Nat) : Int) := by rw [IntKind.wrap_i64]; omega
  obtain ⟨l, hl⟩ : ∃ l, w.heap.size = l := ⟨_, rfl⟩
  obtain ⟨en, hen⟩ : ∃ en, f + ct = en := ⟨_, rfl⟩
  obtain ⟨p0, hp0⟩ : ∃ p0, f + 2 = p0 := ⟨_, rfl⟩
  rw [hen] at hw1
  rw [hp0] at hw2
  obtain ⟨w1, hw1'⟩ : ∃ w1, w.alloc (.cells #[.pointer (some ⟨g, 0, none⟩), .int .i64 (f : Int), .int .i64 (en : Int), .int .i64 (p0 : Int), .int .i64 0, .int .i64 0, .int .i64 0, .int .i64 0] 71) = w1 := ⟨_, rfl⟩
  have hlg1 : LogAt w1 l g (f : Int) (en : Int) (p0 : Int) 0 0 0 0 := by rw [← hw1']; exact al_new _ _ _ hl
  have hb1 : Below w.heap.size w w1 := by rw [← hw1']; exact (Below.refl _ w).alloc (Nat.le_refl _) _
  have hsz1 : w1.heap.size = l + 1 := by rw [← hw1', ← hl]; simp
  have hD1 := dq_below h hb1
  have HFH := Lib.hid (findHead_any hD1 f (by omega) (by omega) (fun j => sb ns (f + j)) (fun j hj => sb_get hf (f + j) (by omega)) hlg1 (by omega) hG (Lib.hid (Fc.tab_later ht.out hb1)))
  have hint := (stAt_int (fun j => sb ns (f + j)) (fun j => bytes_lt _) 2).1
  rw [hst] at HFH hint
  simp only at HFH hint
  have HB1 := Lib.hid hb1
  have HW1 := Lib.hid hw1'
  have HL := Lib.hid hl
  have HSZ := Lib.hid hsz1
  have Hen := Lib.hid hen
  have Hp0 := Lib.hid hp0
  have HB0 := Lib.hid hB0
  clear h hw1' hlg1 hb1 hsz1 hD1 hst hl hnsL hB0
  go_enter Tryd.func18, Tryd.ntmps18
  go_wp2_with fail
  refine HH.out.mono ?_
  rintro e w' ⟨rfl, rfl⟩
  go_wp2_with fail
  rw [HW1.out, HL.out]
  refine HFH.out.mono ?_
  rintro e w2 ⟨rfl, hlg2, hD2, ho2⟩
  have HLg2 := Lib.hid hlg2
  have HD2 := Lib.hid hD2
  have HO2 := Lib.hid ho2
  have HB2 : Hid (Below w.heap.size w w2) := Lib.hid (HB1.out.trans (ho2.below (fun q e => by rw [e, HL.out]; exact Nat.le_refl _) HB1.out.size))
  have HSZ2 : Hid (l < w2.heap.size) := Lib.hid (log_lt hlg2)
  clear hlg2 hD2 ho2 HFH HH
  by_cases hag : ag = 0
  · subst hag
    go_wp2_with fail
    go_ret3
    exact ⟨by first | exact .inl ⟨by trivial, rfl⟩ | rfl, HB2⟩
  · have hag2 : (if ag = 0 then (9 : Int) else 0) = 0 := if_neg hag
    rw [hag2]
    clear hag2
    go_wp2_with fail
    go_loopw [11] (fun rs wr => ∃ (j q : Nat) (bs : List (List Nat)), slLen rs = j ∧ (∃ a n c, rs = .slice a n c) ∧ j ≤ 190 ∧ q ≤ 190 ∧ Hid (bs.length = j ∧ scn ns p0 en ag j = (bs, q, j) ∧ p0 + j ≤ q ∧ q ≤ en) ∧ Hid (LogAt wr l g (f : Int) (en : Int) (q : Int) (j : Int) ag hd 0) ∧ Hid (Dq B wr g L ns k) ∧ Hid (Fc.Tab wr) ∧ Hid (RecsAt (w.heap.size + 1) l wr rs bs) ∧ Hid (Below w.heap.size w wr)) (fun rs _ => 1000 - slLen rs)
    case atStart =>
      refine ⟨0, p0, [], rfl, ⟨_, _, _, rfl⟩, by omega, by have := Hp0.out; omega, Lib.hid ⟨rfl, rfl, by omega, by have := Hp0.out; have := Hen.out; omega⟩, HLg2, HD2, Lib.hid (Fc.tab_later ht.out HB2.out), Lib.hid ⟨[], World.ownsRow_nil _ _ _ _, fun _ => rfl, by simp, by simp⟩, HB2⟩
    case round =>
      obtain ⟨j, q, bs, hsl, ⟨ra, rn, rc, rfl⟩, hj, hq, hsc, hlg, hDr, hTr, hrec, hbel⟩ := hrel
      obtain rfl : rn = j := hsl
      have hsc1 := hsc.out
      have HRd := Lib.hid (read_any hDr.out hf q en hsc1.2.2.2 (by have := Hen.out; omega) hL hint ⟨by omega, by omega⟩ hlg.out hTr)
      clear hsc1
      go_wp2_with fail
      refine HRd.out.mono ?_
      rintro e w3 ⟨hres, hb3⟩
      have hlg3 := Lib.hid (log_below hlg.out hb3.out)
      have hD3 := Lib.hid (dq_below hDr.out hb3.out)
      have hT3 := Lib.hid (Fc.tab_later hTr.out hb3.out)
      have hrec3 := Lib.hid (recs_below hrec.out hb3.out)
      have hbel3 := Lib.hid (hbel.out.trans (hb3.out.mono hbel.out.size))
      have hll := Lib.hid (log_lt hlg.out)
      clear HRd hlg hDr hTr hrec hbel
      rcases hres with ⟨b, gr, cr, hrs, hbn, hbb, rfl, hgr, hsr⟩ | ⟨hno, rfl⟩
      · have hrs := Lib.hid hrs
        have hbn := Lib.hid hbn
        have hqe : q ≠ en := fun e => by
          have := hrs.out
          unfold readS at this
          rw [if_pos e] at this
          cases this
        have hnd := room_need hqe hbn.out
        have hsc2 := hsc.out
        have hnl : 1 ≤ need b.length := by unfold need; omega
        have hbl : b.length ≤ 100000 := by unfold need at hnd; omega
        have HND := Lib.hid hnd
        have HNL := Lib.hid hnl
        have hq2 : q + need b.length ≤ 190 := by have := Hen.out; omega
        have hj2 : rn + 1 ≤ 190 := by omega
        have HQE : Hid (True → q ≠ en) := Lib.hid fun _ => hqe
        have HPs := Lib.hid (fun W (hW : LogAt W l g (f : Int) (en : Int) (q : Int) (rn : Int) ag hd 0) => pass_any q b.length (by omega) (by omega) (by omega) (by omega) hW)
        obtain ⟨vals, v1, v2, v3, v4⟩ := hrec3.out
        obtain ⟨q2, hq2e⟩ : ∃ q2, q + need b.length = q2 := ⟨_, rfl⟩
        have HQ2 := Lib.hid (fun _ : True => hq2e)
        rw [hq2e] at hq2 HPs
        obtain ⟨n, hn⟩ : ∃ n, b.length = n := ⟨_, rfl⟩
        have HN := Lib.hid (fun _ : True => hn)
        rw [hn] at HPs ⊢
        have hbA : Below w3.heap.size w3 (w3.alloc (.cells #[.slice (some ⟨gr, 0, none⟩) n cr] 34)) := (Below.refl _ _).alloc (Nat.le_refl _) _
        have hv1 := Fk.own_only v1 (Fk.Only.of_below (S := fun _ => False) hbA) (fun _ _ x => x)
        have hv1 := Lib.hid hv1
        have HV2 := Lib.hid v2
        have HV3 := Lib.hid v3
        have HV4 := Lib.hid v4
        have hcn : Hid (∀ (x : Nat) (u : Value), [Value.slice (some ⟨gr, 0, none⟩) n cr][x]? = some u → (w3.alloc (.cells #[.slice (some ⟨gr, 0, none⟩) n cr] 34)).cell? ((⟨w3.heap.size, 0, none⟩ : Addr).add x) = some u) := Lib.hid fun x u hu => by
          match x, hu with
          | 0, hu =>
            simp at hu
            subst hu
            simp [World.cell?, Fc.heap_alloc, Addr.add]
          | x + 1, hu => simp at hu
        have HBA := Lib.hid hbA
        have hbl1 : bs.length = rn := hsc.out.1
        have hv1b := hv1.out
        rw [hbl1] at hv1b
        have HV1 := Lib.hid hv1b
        have K3 : rn + 1 ≤ maxLen := by unfold maxLen; omega
        have K4 : (rn + 1) * 24 ≤ 140737488355328 := by omega
        have K5 : Hid (w.heap.size + 1 ≤ (w3.alloc (.cells #[.slice (some ⟨gr, 0, none⟩) n cr] 34)).heap.size) := Lib.hid (by
          have := hbA.size
          have := hll.out
          have := HL.out
          have := hb3.out.size
          omega)
        clear hnd hsc2 hnl hbl v1 v2 v3 v4 hq2e hn hbA hv1 hv1b hbl1 hqe
        go_wp2_with (at_builtin; refine wpList_append_own _ rfl _ _ 38 rfl (w.heap.size + 1) 34 i0 (.slice none 0 0) 1 24 Tryd.underlying38 hi hz0 hz1 hz2 rfl (by decide) _ _ _ rfl HV1.out ⟨w3.heap.size, 0, none⟩ 1 1 [Value.slice (some ⟨gr, 0, none⟩) n cr] rfl rfl hcn.out (by simp [Value.oneCell']) K3 K4 K5.out ?_; intro v' w4 hown' hgrow _)
        obtain ⟨g5, c5, rfl⟩ := Fk.own_shape hown' (by omega)
        have HOwn := Lib.hid hown'
        have HGr := Lib.hid hgrow
        clear hown' hgrow
        have hlgA := log_below hlg3.out HBA.out
        have hlg4 : LogAt w4 l g (f : Int) (en : Int) (q : Int) (rn : Int) ag hd 0 := by
          unfold LogAt at hlgA ⊢
          rw [HGr.out.block l (Array.getElem?_eq_some_iff.1 hlgA).1 (fun e => by
            obtain ⟨cur, hc⟩ := own_blk HV1.out e.symm
            rw [hlgA] at hc
            exact absurd hc (by simp))]
          exact hlgA
        have HLg4 := Lib.hid hlg4
        have hb4 : Below w.heap.size w w4 := own_app (hbel3.out.trans (HBA.out.mono hbel3.out.size)) (Nat.le_trans hbel3.out.size HBA.out.size) (Fk.own_base HV1.out (Nat.le_succ _)) HGr.out
        have HB4 := Lib.hid hb4
        have hnt : ∀ r, (Value.slice ra rn rc).ownBlock = some r → ∃ cs t fr, (w3.alloc (.cells #[.slice (some ⟨gr, 0, none⟩) n cr] 34)).heap[r]? = some (.cells cs t fr) ∧ ¬ DiskT t := fun r e => by
          obtain ⟨cur, hc⟩ := own_blk HV1.out e
          exact ⟨_, _, _, hc, notTB⟩
        have HD4 := Lib.hid (dq_grownT (dq_below hD3.out HBA.out) HGr.out hnt)
        have HT4 := Lib.hid (tab_keep (B := w.heap.size) (by have := HB0.out; omega) ht.out hb4)
        have hrec4 : RecsAt (w.heap.size + 1) l w4 (.slice (some ⟨g5, 0, none⟩) (rn + 1) c5) (bs ++ [b]) := by
          have hbl1 : bs.length = rn := hsc.out.1
          refine ⟨vals ++ [.slice (some ⟨gr, 0, none⟩) n cr], by rw [List.length_append, hbl1]; exact HOwn.out, fun e => by simp at e, fun u hu => ?_, fun i x hx => ?_⟩
          · rcases List.mem_append.1 hu with hu | hu
            · exact HV3.out u hu
            · rw [List.mem_singleton] at hu; exact ⟨_, _, _, hu⟩
          · have hlen : vals.length = rn := by have := HV1.out.1; omega
            have hz : rn = 0 → Value.slice ra rn rc = .slice none 0 0 := fun e => HV2.out (List.length_eq_zero_iff.1 (by omega))
            rcases Nat.lt_or_ge i bs.length with hlt | hge
            · rw [List.getElem?_append_left hlt] at hx
              obtain ⟨gx, cx, a1, a2, a3⟩ := HV4.out i x hx
              exact ⟨gx, cx, by rw [List.getElem?_append_left (by omega)]; exact a1, a2, src_grown HV1.out hz HV3.out HGr.out (Fc.src_later a3 HBA.out)⟩
            · have hi0 : i = rn := by
                have := (List.getElem?_eq_some_iff.1 hx).1
                rw [List.length_append] at this
                simp at this
                omega
              subst hi0
              have hxb : x = b := by
                rw [List.getElem?_append_right hge, hbl1] at hx
                simpa using hx.symm
              subst hxb
              refine ⟨gr, cr, ?_, by have := hgr.out; have := hll.out; omega, src_grown HV1.out hz HV3.out HGr.out (Fc.src_later hsr.out HBA.out)⟩
              rw [List.getElem?_append_right (by omega), hlen, HN.out trivial]
              simp
        have HRec4 := Lib.hid hrec4
        clear hlgA hlg4 hb4 hrec4 hnt
        go_wp2_with fail
        refine (HPs.out w4 HLg4.out).mono ?_
        rintro e w5 ⟨rfl, hlg5, ho5⟩
        have HLg5 := Lib.hid hlg5
        have HO5 := Lib.hid ho5
        clear hlg5 ho5
        go_wp2_with fail
        go_roundw
        case rel =>
          have hsc2 := hsc.out
          have hq22 := HQ2.out trivial
          refine ⟨rn + 1, q2, bs ++ [b], rfl, ⟨_, _, _, rfl⟩, hj2, hq2, Lib.hid ⟨by rw [List.length_append, hsc2.1]; rfl, by rw [← hq22]; exact scn_more hsc2.2.1 hrs.out, ?_, ?_⟩, Lib.hid ?_, Lib.hid (dq_only HD4.out HO5.out (log_type HLg4.out)), Lib.hid ?_, Lib.hid (recs_only HRec4.out HO5.out (log_type HLg4.out) (Nat.le_refl _)), Lib.hid (HB4.out.trans (HO5.out.below (fun x e => by rw [e, HL.out]; exact Nat.le_refl _) HB4.out.size))⟩
          · have := HNL.out; omega
          · have := HND.out; omega
          · have h9 := HLg5.out
            try rw [hq22] at h9
            rw [show ((rn + 1 : Nat) : Int) = (rn : Int) + 1 by push_cast; rfl]
            exact h9
          · exact tab_keep (B := w.heap.size) (by have := HB0.out; omega) HT4.out (HO5.out.below (fun x e => by rw [e, HL.out]; exact Nat.le_refl _) HB4.out.size)
        case measure => simp [slLen]; omega
      · have hno := Lib.hid hno
        go_wp2_with fail
        go_ret3
        have e1 := Hp0.out
        have e2 := Hen.out
        subst e1 e2
        refine ⟨.inr ⟨by first | exact hag | trivial, l, rn, q, rn, bs, _, rfl, hsc.out.2.1, hsc.out.1, hno.out, by have := HL.out; omega, hsc.out.2.2.2, hlg3, hrec3⟩, hbel3⟩
end Go.Proofs.YtfhgdcljhncjmaaDoor
