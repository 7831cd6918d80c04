/- All that a disk keeps, as its sectors; the law's sectors; a write of a text. -/
import Derived.Test.YtfhgdcljhncjmaaDoorWalSC
namespace Go.Proofs.YtfhgdcljhncjmaaDoor
open Go.ChangeShapes Go.WideShapes Go.ChangeAt Go.RowKit
set_option linter.unusedVariables false
set_option maxRecDepth 20000

theorem flat_cut : ∀ (ls : List ByteArray), Full ls → ∀ i, i < ls.length → (((ls.map (·.data.toList)).flatten).drop (512 * i)).take 512 = (ls.getD i ByteArray.empty).data.toList
  | [], _, i, h => by simp at h
  | s :: r, hf, 0, _ => by
    have hs : s.data.toList.length = 512 := by have := hf s (by simp); simpa using this
    simp only [List.map_cons, List.flatten_cons, Nat.mul_zero, List.drop_zero, List.getD_cons_zero]
    rw [← hs, List.take_left]
  | s :: r, hf, i + 1, h => by
    have hs : s.data.toList.length = 512 := by have := hf s (by simp); simpa using this
    have ih := flat_cut r (fun x hx => hf x (List.mem_cons_of_mem _ hx)) i (by simpa using h)
    simp only [List.map_cons, List.flatten_cons, List.getD_cons_succ]
    rw [show 512 * (i + 1) = s.data.toList.length + 512 * i by omega, List.drop_length_add_append]
    exact ih
theorem flat_len : ∀ (ls : List ByteArray), Full ls → ((ls.map (·.data.toList)).flatten).length = 512 * ls.length
  | [], _ => rfl
  | s :: r, hf => by
    have hs : s.data.toList.length = 512 := by have := hf s (by simp); simpa using this
    have ih := flat_len r fun x hx => hf x (List.mem_cons_of_mem _ hx)
    simp only [List.map_cons, List.flatten_cons, List.length_append, List.length_cons, ih, hs]
    omega
/-- the sectors of an image, where they lie -/
theorem cut_conv {w V : World} {gi c : Nat} {ls : List ByteArray} (hf : Full ls) (h : ∀ j, j < 512 * ls.length → w.cell? ⟨gi, j, none⟩ = some (.int .u8 ((UInt8.toNat (((ls.map fun x : ByteArray => x.data.toList).flatten).getD j 0) : Nat) : Int))) (hb : Below w.heap.size w V) (i : Nat) (hi : i < ls.length) :
    (convert 34 9 (.slice (some ⟨gi, 512 * i, none⟩) 512 c)).run Tryd.prog V = .ok (.string (ls.getD i ByteArray.empty)) V := by
  have hcut := flat_cut ls hf i hi
  have hl : (ls.getD i ByteArray.empty).data.toList.length = 512 := by
    have := hf (ls.getD i ByteArray.empty) (by simp [List.getD, hi])
    simpa using this
  have := run_convert_bytes_arg (P := Tryd.prog) V 34 5 Tryd.underlying34 Tryd.underlying5 gi (512 * i) 512 c ((ls.getD i ByteArray.empty).data.toList.map fun b => (b.toNat : Int)) (by rw [List.length_map]; exact hl) (fun k hk => by
    have h2 := h (512 * i + k) (by omega)
    rw [(hb.cell (World.block_lt_of_cell? w _ h2)).trans h2]
    have h3 : ((ls.map (·.data.toList)).flatten)[512 * i + k]? = (ls.getD i ByteArray.empty).data.toList[k]? := by
      rw [← hcut, List.getElem?_take_of_lt hk, List.getElem?_drop]
    simp only [List.getD, List.getElem?_map] at h3 ⊢
    rw [h3]
    cases h4 : ((ls[i]?).getD ByteArray.empty).data.toList[k]? with
    | none =>
      exfalso
      rw [List.getElem?_eq_none_iff] at h4
      simp only [List.getD] at hl
      omega
    | some b => rfl) 9 Tryd.underlying9
  rwa [Fk.sn_all] at this
set_option maxHeartbeats 1000000 in
theorem image_x {B : Nat} {w : World} {g L k : Nat} {s : Dst} (h : Da B w g L s k) (hf : Full s.ls) (hL0 : 1 ≤ L) (hL : L ≤ 190) :
    Calls Tryd.prog 43 #[.pointer (some ⟨g, 0, none⟩)] w fun e w' => ∃ gi c, e = .returned (.slice (some ⟨gi, 0, none⟩) (512 * L) c) ∧ 512 * L ≤ c ∧ Hid (∀ V, Below w'.heap.size w' V → ∀ i, i < L → ∀ c', (convert 34 9 (.slice (some ⟨gi, 512 * i, none⟩) 512 c')).run Tryd.prog V = .ok (.string (s.ls.getD i ByteArray.empty)) V) ∧ Hid (Below w.heap.size w w') := by
  have hll := (da_len h).1
  obtain ⟨gn, gl, cn, cl, vw, st, h1, _⟩ := h
  have hc1 := Fk.head1 h1.head
  have hgl : gl < w.heap.size := by obtain ⟨cur, hq⟩ := Fk.own_type h1.rows; exact (Array.getElem?_eq_some_iff.1 hq).1
  have hcl : L ≤ cl := by
    rcases h1.rows.2 with ⟨e, h0⟩ | ⟨q, cap, cur, e, _, _, r, _⟩
    · cases e
    · cases e; exact r
  have hfl := flat_len s.ls hf
  have HJ := Tryd.strings_Join gl 0 cl s.ls ⟨#[]⟩ w (fun j x hj => by
    have hjl := (List.getElem?_eq_some_iff.1 hj).1
    rw [Nat.zero_add, World.ownsRow.cellAt h1.rows j (by omega)]
    unfold Fk.strs
    rw [List.getElem?_map, hj]; rfl) hgl (by omega) (by omega) (by
      show (Lib.join (s.ls.map (·.data.toList)) []).length ≤ _
      rw [Fk.join_flat, hfl]; omega)
  rw [hll] at HJ
  have hji : (⟨(Lib.join (s.ls.map (·.data.toList)) (⟨#[]⟩ : ByteArray).data.toList).toArray⟩ : ByteArray) = Fk.img s.ls := by
    unfold Fk.img
    rw [← Fk.join_flat]
  rw [hji] at HJ
  have HJ := Lib.hid HJ
  have hsz : (Fk.img s.ls).size = 512 * L := by
    unfold Fk.img
    show ((s.ls.map (·.data.toList)).flatten.toArray).size = _
    rw [List.size_toArray, hfl, hll]
  have HB := Lib.hid (fun (V : World) => And.intro (Lib.run_convert_string_bytes (P := Tryd.prog) V 9 34 5 (Fk.img s.ls) Tryd.underlying9 Tryd.underlying34 Tryd.underlying5) (Fk.read_world V 5 (Fk.img s.ls)))
  have HRes : Hid (∀ (W V : World) (b : Nat), (∀ j, j < (Fk.img s.ls).size → W.cell? ⟨b, j, none⟩ = some (.int .u8 ((Fk.img s.ls).data.toList.getD j 0).toNat)) → Below W.heap.size W V → ∀ i, i < L → ∀ c', (convert 34 9 (.slice (some ⟨b, 512 * i, none⟩) 512 c')).run Tryd.prog V = .ok (.string (s.ls.getD i ByteArray.empty)) V) := Lib.hid fun W V b hW hV i hi c' => cut_conv hf (fun j hj => by
    rw [hW j (by rw [hsz]; omega)]
    rfl) hV i (by omega)
  clear h1 hcl hji hgl hfl hll
  generalize Fk.img s.ls = t at *
  go_enter Tryd.func43, Tryd.ntmps43
  go_wp2_with fail
  refine HJ.out.mono ?_
  rintro e w1 ⟨rfl, hb1⟩
  have hb1' := Lib.hid hb1
  obtain ⟨hcv, hrw⟩ := HB.out w1
  have hrw := Lib.hid hrw
  have hge := grownCap_ge w1 t.size 0 5
  rw [hsz] at hcv hge
  clear hb1 HB
  generalize Lib.bytesWorld w1 5 t = w2 at *
  generalize grownCap w1 (512 * L) 0 5 = cp at *
  go_wp2_with fail
  go_ret
  exact ⟨_, _, rfl, hge, Lib.hid fun V hV i hi c' => HRes.out w2 V _ hrw.out.1 hV i hi c', Lib.hid (hb1'.out.trans (hrw.out.2.2.mono hb1'.out.size))⟩
theorem cut_slice (gi n c lo hi : Nat) (h1 : lo < hi) (h2 : hi ≤ n) (h3 : n ≤ c) (W : World) : (Instr.slice 34 (.slice (some ⟨gi, 0, none⟩) n c) (some (.int .i64 (lo : Int))) (some (.int .i64 (hi : Int))) none).run Tryd.prog W = .ok (.slice (some ⟨gi, lo, none⟩) (hi - lo) (c - lo)) W := by
  have k1 : lo ≤ hi := by omega
  have k2 : hi ≤ c := by omega
  have k3 : ¬ (c = lo) := by omega
  go_simp
set_option maxHeartbeats 4000000 in
theorem sectors_x {B : Nat} {w : World} {g k : Nat} {s : Dst} (h : Da B w g 18 s k) (hf : Full s.ls) :
    Calls Tryd.prog 21 #[.pointer (some ⟨g, 0, none⟩)] w fun e w' => ∃ gS c, e = .returned (.slice (some ⟨gS, 0, none⟩) 14 c) ∧ 14 ≤ c ∧ Hid (∀ i, i < 14 → w'.cell? ⟨gS, i, none⟩ = some (.string (s.ls.getD (2 + i) ByteArray.empty))) ∧ Hid (Below w.heap.size w w') := by
  have HI := Lib.hid (image_x h hf (by decide) (by decide))
  clear h hf
  go_enter Tryd.func21, Tryd.ntmps21
  go_wp2_with fail
  refine HI.out.mono ?_
  rintro e w1 ⟨gi, ci, rfl, hci, HCv, HB1⟩
  clear HI
  go_wp2_with fail
  go_loopw [4, 5] (fun o i wr => ∃ (j : Nat) (oa : Option Addr) (oc : Nat), o = .slice oa j oc ∧ i = .int .i64 (j : Int) ∧ j ≤ 14 ∧ Hid (wr.ownsRow w1.heap.size 9 1 (.slice oa j oc) j (Fk.strs ((List.range j).map fun q => s.ls.getD (2 + q) ByteArray.empty)) ∧ (j = 0 → oc = 0)) ∧ Hid (Below w1.heap.size w1 wr)) (fun _ i _ => 14 - (intOf i).toNat)
  case atStart => exact ⟨0, none, 0, rfl, rfl, by omega, Lib.hid ⟨World.ownsRow_nil _ _ _ _, fun _ => rfl⟩, Lib.hid (Below.refl _ _)⟩
  case round =>
    obtain ⟨j, oa, oc, rfl, rfl, hj, HO, HB2⟩ := hrel
    obtain ⟨wo, rfl⟩ : ∃ wo : World, wo = wr := ⟨_, rfl⟩
    by_cases hlt : j < 14
    · have hltI : (j : Int) < 14 := by omega
      have hw1 : IntKind.i64.wrap ((j : Int) + 1) = ((j + 1 : Nat) : Int) := by rw [IntKind.wrap_i64]; omega
      have hw2 : IntKind.i64.wrap (2 + (j : Int)) = 2 + (j : Int) := by rw [IntKind.wrap_i64]; omega
      have hw3 : IntKind.i64.wrap (2 + (j : Int) + 1) = 2 + (j : Int) + 1 := by rw [IntKind.wrap_i64]; omega
      obtain ⟨lo, hlo⟩ : ∃ lo, 512 * (2 + j) = lo := ⟨_, rfl⟩
      obtain ⟨hi, hhi⟩ : ∃ hi, lo + 512 = hi := ⟨_, rfl⟩
      have hw4 : IntKind.i64.wrap ((2 + (j : Int)) * 512) = (lo : Int) := by rw [IntKind.wrap_i64]; omega
      have hw5 : IntKind.i64.wrap ((2 + (j : Int) + 1) * 512) = (hi : Int) := by rw [IntKind.wrap_i64]; omega
      obtain ⟨t, ht⟩ : ∃ t, s.ls.getD (2 + j) ByteArray.empty = t := ⟨_, rfl⟩
      have hsl : ∀ W, (Instr.slice 34 (.slice (some ⟨gi, 0, none⟩) (512 * 18) ci) (some (.int .i64 (lo : Int))) (some (.int .i64 (hi : Int))) none).run Tryd.prog W = .ok (.slice (some ⟨gi, lo, none⟩) 512 (ci - lo)) W := fun W => by
        have h2 := cut_slice gi (512 * 18) ci lo hi (by omega) (by omega) hci W
        rw [show hi - lo = 512 by omega] at h2
        exact h2
      have hcv : (convert 34 9 (.slice (some ⟨gi, lo, none⟩) 512 (ci - lo))).run Tryd.prog wo = .ok (.string t) wo := by
        rw [← ht, ← hlo]
        exact HCv.out wo HB2.out (2 + j) (by omega) _
      have hal : Below wo.heap.size wo (wo.alloc (.cells #[.string t] 9)) := (Below.refl _ _).alloc (Nat.le_refl _) _
      obtain ⟨v', w', hrun, hov, hrk⟩ := app_some (own_past HO.out.1 hal) (Nat.le_trans HB2.out.size hal.size) (fun h => ⟨oa, by rw [HO.out.2 h, h]⟩) ⟨wo.heap.size, 0, none⟩ 1 1 [t] rfl (one_at (own_one wo (Nat.le_refl _) t)) (by omega) (by decide) 33
      obtain ⟨va, vc, rfl⟩ := own_sl hov
      have HOn : Hid (w'.ownsRow w1.heap.size 9 1 (.slice va (j + 1) vc) (j + 1) (Fk.strs ((List.range (j + 1)).map fun q => s.ls.getD (2 + q) ByteArray.empty)) ∧ (j + 1 = 0 → vc = 0)) := Lib.hid ⟨by
        rw [List.range_succ, List.map_append, List.map_singleton, ht]
        have e1 : ∀ a b : List ByteArray, Fk.strs (a ++ b) = Fk.strs a ++ Fk.strs b := fun a b => List.map_append ..
        rw [e1]
        exact hov, fun h => by omega⟩
      have HBn : Hid (Below w1.heap.size w1 w') := Lib.hid ((HB2.out.trans (hal.mono HB2.out.size)).trans (hrk 0 (by omega)).1)
      clear hov hrk hal hlo hhi ht HO
      go_wp2_with (at_builtin; refine Lib.wpList_append_run _ rfl _ _ _ _ rfl _ _ rfl rfl _ _ hrun ?_)
      go_roundw
      case rel => exact ⟨j + 1, va, vc, rfl, by go_num, by omega, HOn, HBn⟩
      case measure => simp [intOf]; omega
    · obtain rfl : j = 14 := by omega
      have hltI : ¬ (((14 : Nat) : Int) < 14) := by omega
      obtain ⟨gS, cS, hS⟩ := Fk.own_shape HO.out.1 (by decide)
      cases hS
      have HRes : Hid (∀ i, i < 14 → wo.cell? ⟨gS, i, none⟩ = some (.string (s.ls.getD (2 + i) ByteArray.empty))) := Lib.hid fun i hi => by
        rw [World.ownsRow.cellAt HO.out.1 i (by omega), strs_get, List.getElem?_map, List.getElem?_range hi]
        rfl
      have hc14 : 14 ≤ oc := by
        rcases HO.out.1.2 with ⟨e, _⟩ | ⟨q, cap, cur, e, _, _, r, _⟩
        · cases e
        · cases e; exact r
      have HBz : Hid (Below w.heap.size w wo) := Lib.hid (HB1.out.trans (HB2.out.mono HB1.out.size))
      clear HO
      go_wp2_with fail
      go_ret
      exact ⟨gS, oc, rfl, hc14, HRes, HBz⟩
/-- a write of whatever row of 512 bytes -/
theorem dq_writeX {B : Nat} {w : World} {g L k : Nat} {ns : List ByteArray} (h : Dq B w g L ns k) (hk : k ≤ 1000000) (i : Int) (n : Nat) (hni : (n : Int) = i) (hn : n < L) (sp : Option Addr) (cap : Nat) (s : ByteArray) (hcv : ∀ V, Fk.Only (· = g) w V → (convert 34 9 (.slice sp 512 cap)).run Tryd.prog V = .ok (.string s) V) :
    Calls Tryd.prog 27 #[.pointer (some ⟨g, 0, none⟩), .int .i64 i, .slice sp 512 cap] w fun e w' => e = .returned (.int .i64 0) ∧ Dq B w' g L (ns.set n s) (k + 1) ∧ Below B w w' ∧ KeepT g w w' := by
  obtain ⟨gn, gl, cn, cl, vw, ls, W, st, h1, h2, h3, h4, h5, h6⟩ := h
  refine (dk_writeS 0 rfl i n hni h1 hn sp cap s hcv (by omega) (by decide) (by decide) h5 (by omega) (by decide)).mono ?_
  rintro e w' ⟨rfl, gw, cw, a1, a2, a3⟩
  rw [strs_set] at a1
  refine ⟨rfl, ⟨gn, gl, cn, cl, _, ls, _, _, a1, by rw [setT_snoc, h2], fun x hx => ?_, by rw [List.length_append]; simp; omega, by omega, by omega⟩, a2, a3⟩
  rcases List.mem_append.1 hx with hx | hx
  · exact h3 x hx
  · rw [List.mem_singleton] at hx; rw [hx]; exact hn
/-- behind a barrier all lasts -/
theorem dq_lasts {B : Nat} {w : World} {g L k : Nat} {ns : List ByteArray} (h : Dq B w g L ns k) (hk : k ≤ 1000000) :
    Calls Tryd.prog 28 #[.pointer (some ⟨g, 0, none⟩)] w fun e w' => e = .returned (.int .i64 0) ∧ (∃ s, Hid (Da B w' g L s (k + 1)) ∧ Quiet s ∧ s.ls = ns ∧ s.now = ns) ∧ Hid (Below B w w') ∧ Hid (KeepT g w w') := by
  obtain ⟨s, h1, h2, h3⟩ := dq_any h
  obtain ⟨q1, q2, q3⟩ := h2
  have e : act1 s none = ({ s with ls := s.now, W := [], le := if s.ar = true then s.le - 1 else s.le }, true) := by
    unfold act1
    rw [if_neg (by rw [q1, q3]; simp)]
  refine (da_barrier h1 hk _ _ e).mono ?_
  rintro e w' ⟨hr, a1, a2, a3⟩
  rcases hr with ⟨_, rfl⟩ | ⟨hf, _⟩
  · refine ⟨rfl, ⟨_, Lib.hid a1, ⟨q1, by rw [q1]; exact q2, q3⟩, h3, h3⟩, Lib.hid a2, Lib.hid a3⟩
  · cases hf
end Go.Proofs.YtfhgdcljhncjmaaDoor
