/- ValLong: the walk. -/
import Derived.Test.YtpacjcgpeomnaaaDoorValJ
import Derived.Deep.CutRange
import Derived.Lib.SmallJoins
import Derived.Test.YtpacjcgpeomnaaaDoorRows
import Derived.LaidMore
import Derived.Lib.LaidTab
import Derived.Lib.LaidU8
import Derived.MakeChecks
namespace Go.Proofs.YtpacjcgpeomnaaaDoor
open Go.ChangeShapes Go.WideShapes Go.ChangeAt Go.RowKit
open Go.Proofs.YtpacjcgpeomnaaaDoor.Fw (zz vb bytesOf cells)
set_option linter.unusedVariables false
set_option maxRecDepth 20000

theorem mod_nat (x : Int) (b m : Nat) (hm0 : 0 < m) (hm : m ≤ 100000) (hb : b ≤ 100000) : ∃ k : Nat, b ≤ k ∧ k < b + m ∧ wrap64 ((b : Int) + wrap64 ((IntKind.u64.wrap x).tmod (m : Int))) = (k : Int) := by
  have h0 : 0 ≤ IntKind.u64.wrap x := by rw [IntKind.wrap_u64]; omega
  obtain ⟨y, hy⟩ : ∃ y : Nat, IntKind.u64.wrap x = (y : Int) := ⟨(IntKind.u64.wrap x).toNat, by omega⟩
  have h1 : (y : Int).tmod (m : Int) = ((y % m : Nat) : Int) := by rw [Int.tmod_eq_emod_of_nonneg (by omega)]; simp
  have h2 := Nat.mod_lt y hm0
  refine ⟨b + y % m, by omega, by omega, ?_⟩
  rw [hy, h1]
  unfold wrap64
  omega
theorem vW_val (a : Option Addr) (cap c : Nat) (s : ByteArray) : (vW a cap c s).val = .agg #[.int .i64 4, .int .i64 0, .string ⟨#[]⟩, .slice a c cap] := by
  unfold vW
  rw [V.val_eq, List.length_replicate]
theorem set_ne {w : World} {D q i : Nat} (h : q ≠ D) (v : Value) : (w.setCell ⟨D, i, none⟩ v).heap[q]? = w.heap[q]? := by
  unfold World.setCell
  simp only
  rw [Array.getElem?_modify, if_neg (fun e => h e.symm)]
theorem set4 {W : World} {b : Nat} {a0 a1 a2 a3 : Value} {T : TypeId} (hb : W.heap[b]? = some (.cells #[a0, a1, a2, a3] T)) (v0 v1 v2 v3 : Value) :
    ((((W.setCell ⟨b, 0, none⟩ v0).setCell ⟨b, 1, none⟩ v1).setCell ⟨b, 2, none⟩ v2).setCell ⟨b, 3, none⟩ v3).heap[b]? = some (.cells #[v0, v1, v2, v3] T) :=
  Joins.block_setCell (i := 3) (Joins.block_setCell (i := 2) (Joins.block_setCell (i := 1) (Joins.block_setCell (i := 0) hb v0) v1) v2) v3
theorem set4_ne {W : World} {b q : Nat} (h : q ≠ b) (v0 v1 v2 v3 : Value) :
    ((((W.setCell ⟨b, 0, none⟩ v0).setCell ⟨b, 1, none⟩ v1).setCell ⟨b, 2, none⟩ v2).setCell ⟨b, 3, none⟩ v3).heap[q]? = W.heap[q]? := by
  rw [set_ne h, set_ne h, set_ne h, set_ne h]
theorem set4_below {B b : Nat} {w W : World} (h : Below B w W) (hb : B ≤ b) (v0 v1 v2 v3 : Value) :
    Below B w ((((W.setCell ⟨b, 0, none⟩ v0).setCell ⟨b, 1, none⟩ v1).setCell ⟨b, 2, none⟩ v2).setCell ⟨b, 3, none⟩ v3) :=
  (((h.setCell (p := ⟨b, 0, none⟩) hb v0).setCell (p := ⟨b, 1, none⟩) hb v1).setCell (p := ⟨b, 2, none⟩) hb v2).setCell (p := ⟨b, 3, none⟩) hb v3
theorem kept4 {W : World} {b : Nat} {a0 a1 a2 a3 : Value} {T : TypeId} (hb : W.heap[b]? = some (.cells #[a0, a1, a2, a3] T)) :
    W.frozen? ⟨b, 0, none⟩ = false ∧ W.frozen? ⟨b, 1, none⟩ = false ∧ W.frozen? ⟨b, 2, none⟩ = false ∧ W.frozen? ⟨b, 3, none⟩ = false :=
  ⟨Joins.unfrozen_of_block hb _, Joins.unfrozen_of_block hb _, Joins.unfrozen_of_block hb _, Joins.unfrozen_of_block hb _⟩
/-- a variable that holds so deep a value -/
def DeepAt (D n : Nat) (v : V) (w : World) : Prop := er v = dT n ∧ w.heap[D]? = some (.cells #[.int .i64 v.k, .int .i64 v.n, .string v.t, .slice v.a v.ks.length v.cap] 24 (0, 0)) ∧ Lies (fun q => q ≠ D ∧ q < w.heap.size) w v
theorem deep_new {D : Nat} {w : World} (h : w.heap[D]? = some (.cells #[.int .i64 6, .int .i64 0, .string ⟨#[]⟩, .slice none 0 0] 24 (0, 0))) : DeepAt D 0 (.mk 6 0 ⟨#[]⟩ none 0 []) w :=
  ⟨by rw [er_eq]; rfl, h, lies_leaf _ _ _ (wd_s _ (by decide)) (wd_s _ (by decide)) (by show (0 : Nat) ≤ maxLen; unfold maxLen; omega)⟩
theorem deep_next {D n : Nat} {v : V} {w : World} (h : DeepAt D n v w) : DeepAt D (n + 1) (.mk 3 0 ⟨#[]⟩ (some ⟨w.heap.size, 0, none⟩) 1 [v])
    (((((w.alloc (.cells #[.int .i64 v.k, .int .i64 v.n, .string v.t, .slice v.a v.ks.length v.cap] 24)).setCell ⟨D, 0, none⟩ (.int .i64 3)).setCell ⟨D, 1, none⟩ (.int .i64 0)).setCell ⟨D, 2, none⟩ (.string ⟨#[]⟩)).setCell ⟨D, 3, none⟩ (.slice (some ⟨w.heap.size, 0, none⟩) 1 1)) := by
  obtain ⟨h1, h2, h3⟩ := h
  obtain ⟨W2, hW2⟩ : ∃ W2, w.alloc (.cells #[.int .i64 v.k, .int .i64 v.n, .string v.t, .slice v.a v.ks.length v.cap] 24) = W2 := ⟨_, rfl⟩
  have hB2 : Below w.heap.size w W2 := by rw [← hW2]; exact (Below.refl _ _).alloc (Nat.le_refl _) _
  have hbx : W2.heap[w.heap.size]? = some (.cells #[.int .i64 v.k, .int .i64 v.n, .string v.t, .slice v.a v.ks.length v.cap] 24 (0, 0)) := by rw [← hW2]; exact World.alloc_heap_new w _
  have hsz : W2.heap.size = w.heap.size + 1 := by rw [← hW2]; simp
  have hD : D < w.heap.size := (Array.getElem?_eq_some_iff.1 h2).1
  have hD2 : W2.heap[D]? = some (.cells #[.int .i64 v.k, .int .i64 v.n, .string v.t, .slice v.a v.ks.length v.cap] 24 (0, 0)) := by rw [hB2.block D hD]; exact h2
  rw [hW2]
  obtain ⟨W3, hW3⟩ : ∃ W3, ((((W2.setCell ⟨D, 0, none⟩ (.int .i64 3)).setCell ⟨D, 1, none⟩ (.int .i64 0)).setCell ⟨D, 2, none⟩ (.string ⟨#[]⟩)).setCell ⟨D, 3, none⟩ (.slice (some ⟨w.heap.size, 0, none⟩) 1 1)) = W3 := ⟨_, rfl⟩
  have e1 : W3.heap[D]? = some (.cells #[.int .i64 3, .int .i64 0, .string ⟨#[]⟩, .slice (some ⟨w.heap.size, 0, none⟩) 1 1] 24 (0, 0)) := by rw [← hW3]; exact set4 hD2 _ _ _ _
  have e2 : ∀ q, q ≠ D → W3.heap[q]? = W2.heap[q]? := fun q hq => by rw [← hW3]; exact set4_ne hq _ _ _ _
  have e3 : W3.heap.size = W2.heap.size := by rw [← hW3]; simp [World.setCell]
  rw [hW3]
  refine ⟨?_, e1, ?_⟩
  · rw [er_eq]
    show T.mk 3 0 ⟨#[]⟩ (List.map er [v]) = _
    rw [List.map_cons, List.map_nil, h1]
    rfl
  · have hl : Lies (fun q => q ≠ D ∧ q < W3.heap.size) W3 v := h3.same (fun q hq => by rw [e2 q hq.1, hB2.block q hq.2]) (fun q hq => ⟨hq.1, by omega⟩)
    refine Lies.of ⟨wd_s _ (show -100000 ≤ (3 : Int) ∧ (3 : Int) ≤ 100000 by decide), wd_s _ (show -100000 ≤ (0 : Int) ∧ (0 : Int) ≤ 100000 by decide), by show (0 : Nat) ≤ maxLen; unfold maxLen; omega, Nat.le_refl _, by show (1 : Nat) ≤ maxLen; unfold maxLen; omega⟩ (.inr ⟨w.heap.size, 0, rfl, ⟨by omega, by omega⟩, ?_⟩)
    show Row _ W3 w.heap.size 0 [v]
    unfold Row
    obtain ⟨c0, c1, c2, c3⟩ := box4 ((e2 w.heap.size (by omega)).trans hbx)
    refine ⟨⟨c0, c1, c2, c3⟩, hl, ?_⟩
    unfold Row
    trivial
set_option maxHeartbeats 8000000 in
theorem valLong_tab (a0 a1 a2 : Int) (w : World) (ht : Tab w) :
    Calls Tryd.prog 6 #[.int .i64 a0, .int .i64 a1, .int .i64 a2] w fun e w' => e = .returned (.bool true) ∧ Below w.heap.size w w' := by
  have HT := Lib.hid ht
  clear ht
  obtain ⟨c, hc1, hc2, ec⟩ := mod_nat a0 2 7 (by decide) (by decide) (by decide)
  obtain ⟨z, hz1, hz2, ez⟩ := mod_nat a1 1700 700 (by decide) (by decide) (by decide)
  obtain ⟨d, hd1, hd2, ed⟩ := mod_nat a2 195 10 (by decide) (by decide) (by decide)
  have ec : wrap64 (2 + wrap64 ((IntKind.u64.wrap a0).tmod 7)) = (c : Int) := ec
  have ez : wrap64 (1700 + wrap64 ((IntKind.u64.wrap a1).tmod 700)) = (z : Int) := ez
  have ed : wrap64 (195 + wrap64 ((IntKind.u64.wrap a2).tmod 10)) = (d : Int) := ed
  go_enter Tryd.func6, Tryd.ntmps6
  go_upto_region 3 with fail
  rw [ec, ez, ed]
  generalize wrap64 ((IntKind.u64.wrap a0).tmod 7) = x1
  generalize (IntKind.u64.wrap a0).tmod 7 = x2
  generalize wrap64 ((IntKind.u64.wrap a1).tmod 700) = y1
  generalize (IntKind.u64.wrap a1).tmod 700 = y2
  generalize wrap64 ((IntKind.u64.wrap a2).tmod 10) = z1
  generalize (IntKind.u64.wrap a2).tmod 10 = z2
  clear ec ez ed
  go_wp2_with fail
  go_loopw [7, 8] (fun s7 i wr => ∃ (j : Nat) (ax : Option Addr) (cx : Nat), s7 = .slice ax j cx ∧ i = .int .i64 (j : Int) ∧ j ≤ c ∧ Hid (OwnV w.heap.size (.slice ax j cx) (List.replicate j (kV (zS z))) wr) ∧ Hid (Below w.heap.size w wr)) (fun _ i _ => c - (intOf i).toNat)
  case atStart => exact ⟨0, none, 0, rfl, rfl, Nat.zero_le _, Lib.hid (World.ownsRow_nil _ _ _ _), Lib.hid (Below.refl _ _)⟩
  case round =>
    obtain ⟨j, ax, cx, rfl, rfl, hj, HO, HB⟩ := hrel
    by_cases hlt : j < c
    · obtain ⟨W2, hW2⟩ : ∃ W2, wr.alloc (.cells (cells (List.replicate z 0)).toArray 5) = W2 := ⟨_, rfl⟩
      have hmk := mk_bytes z (by omega) wr
      have hcv := zS_conv z (by omega) (by omega) wr
      rw [hW2] at hmk hcv
      have hB2 : Below wr.heap.size wr W2 := by rw [← hW2]; exact (Below.refl _ _).alloc (Nat.le_refl _) _
      obtain ⟨v', w5, hrun0, ho5, hb5⟩ := app_val (ownV_later HO.out hB2) (Nat.le_trans HB.out.size hB2.size) (kV (zS z)) (by rw [List.length_replicate]; omega) 22
      obtain ⟨a5, c5, rfl⟩ := ownV_form ho5
      have HO5 : Hid (OwnV w.heap.size (.slice a5 (j + 1) c5) (List.replicate (j + 1) (kV (zS z))) w5) := Lib.hid (by
        rw [List.length_append, List.length_replicate] at ho5
        rw [List.replicate_succ', ← List.length_singleton (a := kV (zS z))]
        exact ho5)
      have HB5 : Hid (Below w.heap.size w w5) := Lib.hid ((HB.out.trans (hB2.mono HB.out.size)).trans hb5)
      obtain ⟨s, hs⟩ : ∃ s, zS z = s := ⟨_, rfl⟩
      have hrun : (Builtin.append_ #[22, 22] 22 #[.slice ax j cx, .slice (some ⟨W2.heap.size, 0, none⟩) 1 1]).run Tryd.prog (W2.alloc (.cells #[.int .i64 2, .int .i64 0, .string s, .slice none 0 0] 24)) = .ok (.slice a5 (j + 1) c5) w5 := by
        rw [← hs]
        rw [List.length_append, List.length_replicate] at hrun0
        exact hrun0
      rw [hs] at hcv
      clear hrun0 ho5 hb5 HO HB hs hW2 hB2
      go_wp2_with (at_builtin; refine Lib.wpList_append_run _ rfl _ _ _ _ rfl _ _ rfl rfl _ _ hrun ?_)
      go_roundw
      case rel => exact ⟨j + 1, a5, c5, rfl, by go_num, by omega, HO5, HB5⟩
      case measure => simp [intOf]; omega
    · obtain rfl : j = c := by omega
      go_upto_region 8 with fail
      have hbx : (wr.alloc (.cells #[.int .i64 4, .int .i64 0, .string ⟨#[]⟩, .slice ax j cx] 24)).heap[wr.heap.size]? = some (.cells #[.int .i64 4, .int .i64 0, .string ⟨#[]⟩, .slice ax j cx] 24 (0, 0)) := World.alloc_heap_new wr _
      have hb3 : Below wr.heap.size wr (wr.alloc (.cells #[.int .i64 4, .int .i64 0, .string ⟨#[]⟩, .slice ax j cx] 24)) := (Below.refl _ _).alloc (Nat.le_refl _) _
      generalize wr.alloc (.cells #[.int .i64 4, .int .i64 0, .string ⟨#[]⟩, .slice ax j cx] 24) = W3 at *
      have hv3 := lies_wide (ownV_later HO.out hb3) (by rw [zS_size]; omega) (by omega)
      have hsz := vW_size ax cx j (zS z)
      obtain ⟨X, hX⟩ : ∃ X, vW ax cx j (zS z) = X := ⟨_, rfl⟩
      have hXv : X.val = .agg #[.int .i64 4, .int .i64 0, .string ⟨#[]⟩, .slice ax j cx] := by rw [← hX]; exact vW_val _ _ _ _
      rw [hX] at hv3 hsz
      obtain ⟨E, hE⟩ : ∃ E, chk (er X) = E := ⟨_, rfl⟩
      have HE := Lib.hid (refEncode_any X W3 hv3 (by omega))
      have HC : Hid (∀ W, Below W3.heap.size W3 W → Calls Tryd.prog 14 #[.agg #[.int .i64 4, .int .i64 0, .string ⟨#[]⟩, .slice ax j cx]] W fun e w' => e = .returned (.int .i64 E) ∧ Hid (Below W.heap.size W w')) := Lib.hid fun W hb => by
        have := check_any X W ((hv3.below hb).mono (fun q hq => Nat.lt_of_lt_of_le hq hb.size)) (by omega) (by omega)
        rw [hXv, hE] at this
        exact this
      have HE2 : Hid (Calls Tryd.prog 11 #[.agg #[.int .i64 4, .int .i64 0, .string ⟨#[]⟩, .slice ax j cx]] W3 fun e w' => ∃ sx, e = .returned (.tuple #[.string sx, .int .i64 E]) ∧ Hid (Below W3.heap.size W3 w')) := Lib.hid (by
        rw [← hXv]
        refine HE.out.mono fun e w' h => ?_
        obtain ⟨h, hb⟩ := h
        rcases h with ⟨h0, he⟩ | ⟨h0, he⟩
        · exact ⟨_, by rw [he, ← hE, h0], hb⟩
        · exact ⟨_, by rw [he, hE], hb⟩)
      obtain ⟨q0, q1, q2, q3⟩ := box4 hbx
      have HBx := Lib.hid (fun W' (hb : Below W3.heap.size W3 W') => box4_later hbx hb)
      have HB3 := Lib.hid (show Below w.heap.size w W3 from HB.out.trans (hb3.mono HB.out.size))
      obtain ⟨Bv, hBv⟩ : ∃ b, wr.heap.size = b := ⟨_, rfl⟩
      rw [hBv] at q0 q1 q2 q3 HBx ⊢
      clear hbx hb3 hv3 hsz hX hXv hE HE HO HB hBv
      go_wp2_with fail
      refine HE2.out.mono ?_
      rintro e w4 ⟨sx, rfl, hb4⟩
      have HB4 := Lib.hid (show Below W3.heap.size W3 w4 from hb4.out)
      clear hb4 HE2 q0 q1 q2 q3
      go_upto_region 10 with fail
      have hdx : (w4.alloc (.cells #[.int .i64 6, .int .i64 0, .string ⟨#[]⟩, .slice none 0 0] 24)).heap[w4.heap.size]? = some (.cells #[.int .i64 6, .int .i64 0, .string ⟨#[]⟩, .slice none 0 0] 24 (0, 0)) := World.alloc_heap_new w4 _
      have hb5 : Below w4.heap.size w4 (w4.alloc (.cells #[.int .i64 6, .int .i64 0, .string ⟨#[]⟩, .slice none 0 0] 24)) := (Below.refl _ _).alloc (Nat.le_refl _) _
      generalize w4.alloc (.cells #[.int .i64 6, .int .i64 0, .string ⟨#[]⟩, .slice none 0 0] 24) = W5 at *
      have HD5 := Lib.hid (deep_new hdx)
      have HB5 := Lib.hid (hb5)
      obtain ⟨D, hD⟩ : ∃ b, w4.heap.size = b := ⟨_, rfl⟩
      have HDe := Lib.hid (fun _ : True => hD)
      rw [hD] at HD5 HB5 ⊢
      clear hdx hb5 hD
      go_wp2_with fail
      go_loopw [13] (fun i wx => ∃ (m : Nat) (v : V), i = .int .i64 (m : Int) ∧ m ≤ d ∧ Hid (1 ≤ m) ∧ Hid (DeepAt D (m - 1) v wx) ∧ Hid (Below D w4 wx)) (fun i _ => d - (intOf i).toNat)
      case atStart => exact ⟨1, _, rfl, by omega, Lib.hid (Nat.le_refl _), HD5, HB5⟩
      case round =>
        obtain ⟨m, v, rfl, hm, HM, HD, HBx2⟩ := hrel
        by_cases hlt2 : m < d
        · obtain ⟨b0, b1, b2, b3⟩ := box4 HD.out.2.1
          have hlD : D < wr.heap.size := (Array.getElem?_eq_some_iff.1 HD.out.2.1).1
          obtain ⟨W6, hW6⟩ : ∃ W6, wr.alloc (.cells #[.int .i64 v.k, .int .i64 v.n, .string v.t, .slice v.a v.ks.length v.cap] 24) = W6 := ⟨_, rfl⟩
          have hB6 : Below wr.heap.size wr W6 := by rw [← hW6]; exact (Below.refl _ _).alloc (Nat.le_refl _) _
          have hd6 : W6.heap[D]? = some (.cells #[.int .i64 v.k, .int .i64 v.n, .string v.t, .slice v.a v.ks.length v.cap] 24 (0, 0)) := by rw [hB6.block D hlD]; exact HD.out.2.1
          obtain ⟨d0, d1, d2, d3⟩ := box4 hd6
          obtain ⟨f0, f1, f2, f3⟩ := kept4 hd6
          have HN := Lib.hid (deep_next HD.out)
          rw [hW6] at HN
          have HB6 := Lib.hid (HBx2.out.trans (hB6.mono (Nat.le_of_lt hlD)))
          clear hB6 hd6 hlD
          go_upto_region 12 with fail
          have HB7 := Lib.hid (set4_below HB6.out (Nat.le_refl D) (.int .i64 3) (.int .i64 0) (.string ⟨#[]⟩) (.slice (some ⟨wr.heap.size, 0, none⟩) 1 1))
          have HM1 := Lib.hid (show m - 1 + 1 = m + 1 - 1 by have := HM.out; omega)
          clear HB6 hW6 b0 b1 b2 b3 d0 d1 d2 d3 f0 f1 f2 f3 HD HBx2
          generalize ((((W6.setCell ⟨D, 0, none⟩ (.int .i64 3)).setCell ⟨D, 1, none⟩ (.int .i64 0)).setCell ⟨D, 2, none⟩ (.string ⟨#[]⟩)).setCell ⟨D, 3, none⟩ (.slice (some ⟨wr.heap.size, 0, none⟩) 1 1)) = W7 at *
          go_wp2_with fail
          go_roundw
          case rel => exact ⟨m + 1, _, by go_num, by omega, Lib.hid (by omega), Lib.hid (by have := HN.out; rw [HM1.out] at this; exact this), HB7⟩
          case measure => simp [intOf]; omega
        · obtain rfl : d = m := by omega
          obtain ⟨b0, b1, b2, b3⟩ := box4 HD.out.2.1
          have hbW : Below W3.heap.size W3 wr := HB4.out.trans (HBx2.out.mono (by have := HDe.out trivial; have := HB4.out.size; omega))
          have hds := dT_size (d - 1)
          have hA := encode_any v wr (HD.out.2.2.mono (fun q hq => hq.2)) (by rw [HD.out.1]; omega) (by rw [HD.out.1]; omega)
          rw [HD.out.1] at hA
          have hF := dT_chk (d - 1) (by omega)
          have hd1' : d - 1 + 1 = d := by omega
          rw [hd1'] at hF
          rw [hF] at hA
          have HW8 := Lib.hid (show Below W3.heap.size W3 wr from hbW)
          have HV8 := Lib.hid (fun W' (h : Below W3.heap.size W3 W') => vals_any W' (tab_later (tab_later HT.out HB3.out) h))
          clear hbW hds hF hd1'
          by_cases h200 : d ≤ 200
          · have hdI : (d : Int) ≤ 200 := by omega
            have HA : Hid (Calls Tryd.prog 12 #[.agg #[.int .i64 v.k, .int .i64 v.n, .string v.t, .slice v.a v.ks.length v.cap]] wr fun e w' => ∃ r, e = .returned (.tuple #[r, .int .i64 0]) ∧ Hid (Below wr.heap.size wr w')) := Lib.hid (by
              refine hA.mono fun e w' h => ?_
              obtain ⟨h, hb⟩ := h
              rw [if_pos h200] at h
              rcases h with ⟨h0, r, he, _⟩ | ⟨h0, he⟩
              · first | exact ⟨r, he, hb⟩ | exact absurd h0 (by decide)
              · first | exact ⟨_, he, hb⟩ | exact absurd rfl h0)
            clear hA
            go_wp2_with fail
            refine HA.out.mono ?_
            rintro e w8 ⟨r, rfl, hb8⟩
            have HW9 := Lib.hid (show Below W3.heap.size W3 w8 from HW8.out.trans (hb8.out.mono HW8.out.size))
            have HV := Lib.hid (HV8.out w8 HW9.out)
            clear hb8 b0 b1 b2 b3 HA HW8 HV8 HD HBx2
            go_wp2_with fail
            refine HV.out.mono ?_
            rintro e w9 ⟨rfl, hb9⟩
            have HW10 := Lib.hid (show Below W3.heap.size W3 w9 from HW9.out.trans (hb9.out.mono HW9.out.size))
            obtain ⟨q0, q1, q2, q3⟩ := HBx.out w9 HW10.out
            have HCk := Lib.hid (HC.out w9 HW10.out)
            clear hb9 HV HW9 HC
            go_wp2_with fail
            refine HCk.out.mono ?_
            rintro e w10 ⟨rfl, hb10⟩
            have HW11 := Lib.hid (show Below w.heap.size w w10 from HB3.out.trans ((HW10.out.trans (hb10.out.mono HW10.out.size)).mono HB3.out.size))
            clear hb10
            go_wp2_with fail
            go_ret
            exact ⟨rfl, HW11.out⟩
          · have hdI : ¬ (d : Int) ≤ 200 := by omega
            have HA : Hid (Calls Tryd.prog 12 #[.agg #[.int .i64 v.k, .int .i64 v.n, .string v.t, .slice v.a v.ks.length v.cap]] wr fun e w' => ∃ r, e = .returned (.tuple #[r, .int .i64 2]) ∧ Hid (Below wr.heap.size wr w')) := Lib.hid (by
              refine hA.mono fun e w' h => ?_
              obtain ⟨h, hb⟩ := h
              rw [if_neg h200] at h
              rcases h with ⟨h0, r, he, _⟩ | ⟨h0, he⟩
              · first | exact ⟨r, he, hb⟩ | exact absurd h0 (by decide)
              · first | exact ⟨_, he, hb⟩ | exact absurd rfl h0)
            clear hA
            go_wp2_with fail
            refine HA.out.mono ?_
            rintro e w8 ⟨r, rfl, hb8⟩
            have HW9 := Lib.hid (show Below W3.heap.size W3 w8 from HW8.out.trans (hb8.out.mono HW8.out.size))
            have HV := Lib.hid (HV8.out w8 HW9.out)
            clear hb8 b0 b1 b2 b3 HA HW8 HV8 HD HBx2
            go_wp2_with fail
            refine HV.out.mono ?_
            rintro e w9 ⟨rfl, hb9⟩
            have HW10 := Lib.hid (show Below W3.heap.size W3 w9 from HW9.out.trans (hb9.out.mono HW9.out.size))
            obtain ⟨q0, q1, q2, q3⟩ := HBx.out w9 HW10.out
            have HCk := Lib.hid (HC.out w9 HW10.out)
            clear hb9 HV HW9 HC
            go_wp2_with fail
            refine HCk.out.mono ?_
            rintro e w10 ⟨rfl, hb10⟩
            have HW11 := Lib.hid (show Below w.heap.size w w10 from HB3.out.trans ((HW10.out.trans (hb10.out.mono HW10.out.size)).mono HB3.out.size))
            clear hb10
            go_wp2_with fail
            go_ret
            exact ⟨by show Ending.returned (.bool (!decide ((d : Int) ≤ 200))) = _; rw [decide_eq_false (show ¬ (d : Int) ≤ 200 by omega)]; rfl, HW11.out⟩
theorem gPow : Tryd.prog.globalNamed "internal/strconv.uint64pow10" = some 1 := by kernel_rfl
theorem tPow : (Tryd.prog.globals[1]?).map (·.type) = some 122 := by kernel_rfl
theorem cPow : Tryd.prog.cellsOf 122 = 20 := by kernel_rfl
theorem cU64 : Tryd.prog.cellsOf 40 = 1 := by kernel_rfl
theorem dPow : (Rows.laid_internal_strconv_uint64pow10 : DataW Unit) = Lib.tabData .u64 Lib.pow10Tab := by rfl
theorem tab_of_laid {W : World} (h : laidMetH Tryd.prog [("math/bits.deBruijn32tab", Rows.laid_math_bits_deBruijn32tab), ("math/bits.deBruijn64tab", Rows.laid_math_bits_deBruijn64tab), ("internal/strconv.uint64pow10", Rows.laid_internal_strconv_uint64pow10)] W) : Lib.TabIs Tryd.prog W "internal/strconv.uint64pow10" .u64 Lib.pow10Tab := by
  rw [MakeChecks.laidMetH_plain _ _ _ (by kernel_rfl)] at h
  obtain ⟨g, t, cs, fuel, p, hg, ht, hv, hd⟩ := Lib.laidMet.reads h (n := "internal/strconv.uint64pow10") (d := Rows.laid_internal_strconv_uint64pow10) (by simp)
  obtain rfl := Option.some.inj (gPow.symm.trans hg)
  obtain rfl := Option.some.inj (tPow.symm.trans ht)
  rw [dPow] at hd
  have := Lib.cells_of_tab Tryd.underlying122 Tryd.underlying40 cU64 cPow hd
  unfold Lib.TabIs
  rw [hv, ← this]
theorem valLong_walk (a0 a1 a2 : Int) (w : World) (hl : laidMetH Tryd.prog [("math/bits.deBruijn32tab", Rows.laid_math_bits_deBruijn32tab), ("math/bits.deBruijn64tab", Rows.laid_math_bits_deBruijn64tab), ("internal/strconv.uint64pow10", Rows.laid_internal_strconv_uint64pow10)] w) :
    Calls Tryd.prog 6 #[.int .i64 a0, .int .i64 a1, .int .i64 a2] w fun e w' => e = .returned (.bool true) ∧ Below w.heap.size w w' := valLong_tab a0 a1 a2 w (tab_of_laid hl)
end Go.Proofs.YtpacjcgpeomnaaaDoor
