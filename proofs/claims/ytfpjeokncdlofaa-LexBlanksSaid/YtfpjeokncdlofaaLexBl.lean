/- LexBlanks, at whatever text and gaps. -/
import Derived.Test.YtfpjeokncdlofaaLexBw
import Derived.Lib.SmallJoins
namespace Go.Proofs.Ytfpjeokncdlofaa
open Go.ChangeShapes Go.WideShapes Go.ChangeAt Go.RowKit Go.Joins
open Go.Proofs.Ytfpjeokncdlofaa.Fn (st st_size st_list st_extract)
set_option linter.unusedVariables false
set_option maxRecDepth 20000

/-- what the loop over the tokens has come to -/
def Blk (L : List Tok) (j : Nat) (r : List (List UInt8 × TokD)) (ob : List UInt8) : Prop :=
  r.length = j ∧ ob = outT r ∧ (∀ x ∈ r, x.1 ∈ gapL ∧ okD x.2) ∧ ob.length ≤ lenS (L.take j) + 9 * j
def wnt (r : List (List UInt8 × TokD)) (x : List UInt8 × TokD) (ng k : Nat) : List Tok := if k ≤ ng then wantT r (1, 1) else wantT (r ++ [x]) (1, 1)
theorem adv_ten (p : Nat × Nat) : adv 10 p = (p.1 + 1, 1) := rfl
theorem adv_else {c : UInt8} (h : c ≠ 10) (p : Nat × Nat) : adv c p = (p.1, p.2 + 1) := by unfold adv; rw [if_neg h]
theorem kept5 {W : World} {b : Nat} {a0 a1 a2 a3 a4 : Value} {T : TypeId} (hb : W.heap[b]? = some (.cells #[a0, a1, a2, a3, a4] T)) :
    (W.cell? ⟨b, 0, none⟩ = some a0 ∧ W.cell? ⟨b, 1, none⟩ = some a1 ∧ W.cell? ⟨b, 2, none⟩ = some a2 ∧ W.cell? ⟨b, 3, none⟩ = some a3 ∧ W.cell? ⟨b, 4, none⟩ = some a4) ∧
    (W.frozen? ⟨b, 0, none⟩ = false ∧ W.frozen? ⟨b, 1, none⟩ = false ∧ W.frozen? ⟨b, 2, none⟩ = false ∧ W.frozen? ⟨b, 3, none⟩ = false ∧ W.frozen? ⟨b, 4, none⟩ = false) := by
  refine ⟨⟨?_, ?_, ?_, ?_, ?_⟩, ⟨?_, ?_, ?_, ?_, ?_⟩⟩
  · rw [cell_of_block hb]; rfl
  · rw [cell_of_block hb]; rfl
  · rw [cell_of_block hb]; rfl
  · rw [cell_of_block hb]; rfl
  · rw [cell_of_block hb]; rfl
  all_goals exact unfrozen_of_block hb _
theorem set5 {W : World} {b : Nat} {a0 a1 a2 a3 a4 : Value} {T : TypeId} (hb : W.heap[b]? = some (.cells #[a0, a1, a2, a3, a4] T)) (v0 v1 v2 v3 v4 : Value) :
    (((((W.setCell ⟨b, 0, none⟩ v0).setCell ⟨b, 1, none⟩ v1).setCell ⟨b, 2, none⟩ v2).setCell ⟨b, 3, none⟩ v3).setCell ⟨b, 4, none⟩ v4).heap[b]? = some (.cells #[v0, v1, v2, v3, v4] T) :=
  block_setCell (i := 4) (block_setCell (i := 3) (block_setCell (i := 2) (block_setCell (i := 1) (block_setCell (i := 0) hb v0) v1) v2) v3) v4
theorem set2 {W : World} {b : Nat} {a0 a1 a2 a3 a4 : Value} {T : TypeId} (hb : W.heap[b]? = some (.cells #[a0, a1, a2, a3, a4] T)) (v1 v2 : Value) :
    ((W.setCell ⟨b, 1, none⟩ v1).setCell ⟨b, 2, none⟩ v2).heap[b]? = some (.cells #[a0, v1, v2, a3, a4] T) :=
  block_setCell (i := 2) (block_setCell (i := 1) hb v1) v2
set_option maxHeartbeats 8000000 in
theorem lexBlanks_walk (HWo : ∀ w : World, Calls Try.prog 14 #[.string ⟨#[48, 46, 53]⟩] w fun e w' => e = .returned (.tuple #[.agg #[.int .i64 3, .int .i64 0, .int .i64 0, .int .i64 0, .string (st half)], .bool true]) ∧ Hid (Below w.heap.size w w'))
    (sa : ByteArray) (a1 : Option Addr) (len1 cap1 : Nat) (z1 : List Int) (w : World)
    (w1 : (a1 = none ∧ len1 = 0 ∧ cap1 = 0 ∧ z1 = []) ∨ ∃ x, a1 = some x ∧ len1 ≤ cap1 ∧ cap1 ≤ maxLen ∧ z1.length = cap1 ∧ (∀ i, i < z1.length → w.cell? (x.add i) = some (.int .i64 (z1.getD i 0))) ∧ ∀ n ∈ z1, (Lit.int .i64 n).wf = true) :
    Calls Try.prog 5 #[.string sa, .slice a1 len1 cap1] w fun e w' => e = .returned (.bool true) ∧ Below w.heap.size w w' := by
  obtain ⟨A, hA⟩ : ∃ L, sa = st L := ⟨sa.data.toList, by apply ByteArray.ext; simp [st]⟩
  obtain ⟨na, hna⟩ : ∃ n, A.length = n := ⟨_, rfl⟩
  have hsa : sa.size = na := by rw [hA, st_size, hna]
  have HL := Lib.hid (fun W => lexes_any W)
  have HG := Lib.hid (arg_ints w1)
  have HWd := Lib.hid HWo
  clear w1 HWo
  by_cases h1 : 2000 < na
  · have h1I : (2000 : Int) < (na : Int) := by omega
    clear hA hna
    go_enter Try.func5, Try.ntmps5
    go_wp2_with fail
    refine (HL.out _).mono ?_
    rintro e w1 ⟨rfl, hb1⟩
    go_wp2_with fail
    go_ret
    exact ⟨rfl, hb1.out⟩
  · have h1I : ¬ ((2000 : Int) < (na : Int)) := by omega
    obtain ⟨RA, hRA⟩ := scanL_some A (by omega)
    cases RA with
    | error r =>
      have HA : Hid (∀ W, Calls Try.prog 10 #[.string sa] W fun e w' => e = .returned (.tuple #[.slice none 0 0, .agg #[.int .i64 (r.1 : Int), .int .i64 (r.2 : Int)], .int .i64 10]) ∧ Hid (Below W.heap.size W w')) := Lib.hid (fun W => by rw [hA]; exact lexScan_no A (by omega) r hRA W)
      clear hA hna hRA
      go_enter Try.func5, Try.ntmps5
      go_wp2_with fail
      refine (HA.out _).mono ?_
      rintro e w1 ⟨rfl, hb1⟩
      go_wp2_with fail
      generalize h3 : World.alloc w1 _ = w2
      have hb2 : Below w1.heap.size w1 w2 := by rw [← h3]; exact (Below.refl _ _).alloc (Nat.le_refl _) _
      clear h3
      refine (HL.out _).mono ?_
      rintro e w3 ⟨rfl, hb3⟩
      go_wp2_with fail
      refine (HL.out _).mono ?_
      rintro e w4 ⟨rfl, hb4⟩
      have hb34 := hb3.out.trans (hb4.out.mono hb3.out.size)
      have hb24 := hb2.trans (hb34.mono hb2.size)
      have HB9 := Lib.hid (hb1.out.trans (hb24.mono hb1.out.size))
      clear hb1 hb2 hb3 hb4 hb34 hb24
      go_wp2_with fail
      go_ret
      exact ⟨rfl, HB9.out⟩
    | ok L =>
      have HA : Hid (∀ W, Calls Try.prog 10 #[.string sa] W fun e w' => ∃ va vc, e = .returned (.tuple #[.slice va L.length vc, .agg #[.int .i64 0, .int .i64 0], .int .i64 0]) ∧ Hid (w'.ownsRow W.heap.size 44 5 (.slice va L.length vc) L.length (cellsT L)) ∧ Hid (Below W.heap.size W w')) := Lib.hid (fun W => by
        rw [hA]
        refine (lexScan_ok A (by omega) L hRA W).mono ?_
        rintro e w' ⟨v, rfl, ho, hb⟩
        obtain ⟨va, vc, rfl⟩ := own_sl ho.out
        exact ⟨va, vc, rfl, ho, hb⟩)
      have HOk : Hid ((∀ k ∈ L, okD k.2) ∧ ∀ m, lenS (L.take m) ≤ 8000 + 30 * m) := Lib.hid (by
        obtain ⟨q1, q2⟩ := scanL_ok (by omega) hRA
        exact ⟨q1, fun m => Nat.le_trans (q2 m) (by omega)⟩)
      have hLn : L.length ≤ 2000 := by have := scanL_count hRA; omega
      clear hA hna hRA
      go_enter Try.func5, Try.ntmps5
      go_wp2_with fail
      refine (HA.out _).mono ?_
      rintro e w1 ⟨va, vc, rfl, ho1, hb1⟩
      go_wp2_with fail
      generalize h3 : World.alloc w1 _ = w2
      have hb2 : Below w1.heap.size w1 w2 := by rw [← h3]; exact (Below.refl _ _).alloc (Nat.le_refl _) _
      clear h3
      refine (HL.out _).mono ?_
      rintro e w3 ⟨rfl, hb3⟩
      go_wp2_with fail
      generalize h3 : World.alloc w3 _ = w4
      have hb4 : Below w3.heap.size w3 w4 := by rw [← h3]; exact (Below.refl _ _).alloc (Nat.le_refl _) _
      have HC4 : Hid (w4.heap[w3.heap.size]? = some gapO) := Lib.hid (by rw [← h3]; show (w3.heap.push _)[w3.heap.size]? = _; simp)
      have hF : w3.heap.size < w4.heap.size := by rw [← h3]; simp
      clear h3
      have hb34 := hb3.out.trans (hb4.mono hb3.out.size)
      have hb14 : Below w1.heap.size w1 w4 := hb2.trans (hb34.mono hb2.size)
      clear hb4
      generalize w3.heap.size = F at *
      have HF := Lib.hid hF
      have HB4 := Lib.hid (hb1.out.trans (hb14.mono hb1.out.size))
      have HO4 := Lib.hid (own_below ho1.out hb14)
      clear hb1 hb2 hb3 hb34 hb14 ho1 hF HA
      go_loopg [9, 10, 11, 12, 13] (L.length) (fun gk s9 s10 s11 s12 s13 wq => ∃ (j : Nat) (r : List (List UInt8 × TokD)) (ob : List UInt8) (pl pc : Nat) (wa : Option Addr) (qn cq : Nat),
        s9 = .string (st ob) ∧ s10 = .int .i64 (pl : Int) ∧ s11 = .int .i64 (pc : Int) ∧ s12 = .slice wa qn cq ∧ s13 = .int .i64 (j : Int) ∧
        Hid (j ≤ 100 ∧ j ≤ L.length ∧ j + gk = L.length) ∧ Hid (Blk L j r ob ∧ (pl, pc) = adL ob (1, 1)) ∧ Hid (qn = (wantT r (1, 1)).length) ∧
        Hid (wq.ownsRow w4.heap.size 38 5 (.slice wa qn cq) qn (cellsT (wantT r (1, 1)))) ∧ Hid (Below w4.heap.size w4 wq))
      case atStart => exact ⟨0, [], [], 1, 1, none, 0, 0, rfl, rfl, rfl, rfl, rfl, Lib.hid (by omega), Lib.hid ⟨⟨rfl, rfl, fun _ h => absurd h (List.not_mem_nil), by simp⟩, rfl⟩, Lib.hid rfl, Lib.hid (World.ownsRow_nil _ _ _ _), Lib.hid (Below.refl _ _)⟩
      case round =>
        obtain ⟨j, r, ob, pl, pc, wa, qn, cq, rfl, rfl, rfl, rfl, rfl, HJ, HBk, HQ, HO, HB⟩ := hrel
        obtain ⟨wo, rfl⟩ : ∃ wo : World, wo = wr := ⟨_, rfl⟩
        by_cases hj : j < L.length ∧ j < 100
        · obtain ⟨hjL, hj1⟩ := hj
          have hjLI : (j : Int) < (L.length : Int) := by omega
          have hj1I : (j : Int) < 100 := by omega
          have hj0 : (0 : Int) ≤ (j : Int) := by omega
          have k0 : wo.cell? ⟨F, 0, none⟩ = some (.string ⟨#[32]⟩) := by
            have h := (HB.out.block F HF.out).trans HC4.out
            rw [cell_of_block h]; rfl
          obtain ⟨g, sg, hg, hgl, hsg, hgap⟩ : ∃ (g : List UInt8) (sg : ByteArray), g ∈ gapL ∧ g.length ≤ 9 ∧ st g = sg ∧
              ((len1 ≤ j ∧ sg = ⟨#[32]⟩) ∨ (j < len1 ∧ ∃ gb o gv m, m < 5 ∧ a1 = some ⟨gb, o, none⟩ ∧ len1 ≤ cap1 ∧ wo.cell? ⟨gb, o + j, none⟩ = some (.int .i64 gv) ∧ wrap64 ((IntKind.u64.wrap gv).tmod 5) = ((m : Nat) : Int) ∧ wo.cell? ⟨F, m, none⟩ = some (.string sg))) := by
            rcases Nat.lt_or_ge j len1 with hlt | hge
            · obtain ⟨gb, o, gv, e1, e2, e3⟩ := HG.out j hlt
              obtain ⟨m, hm, hm5⟩ : ∃ m : Nat, wrap64 ((IntKind.u64.wrap gv).tmod 5) = (m : Int) ∧ m < 5 := by
                have h := IntKind.wrap_u64 gv
                have h2 : 0 ≤ IntKind.u64.wrap gv := by rw [h]; omega
                have e : (IntKind.u64.wrap gv).tmod 5 = IntKind.u64.wrap gv % 5 := Int.tmod_eq_emod_of_nonneg h2
                refine ⟨(IntKind.u64.wrap gv % 5).toNat, ?_, by omega⟩
                rw [e]; unfold wrap64; omega
              obtain ⟨g, q1, q2, q3⟩ := gap_at ((HB.out.block F HF.out).trans HC4.out) m hm5
              exact ⟨g, st g, q1, q2, rfl, .inr ⟨hlt, gb, o, gv, m, hm5, e1, e2, e3 wo (HB4.out.trans (HB.out.mono HB4.out.size)), hm, q3⟩⟩
            · exact ⟨[32], _, by decide, by decide, rfl, .inl ⟨hge, rfl⟩⟩
          have HGap := Lib.hid (show g ∈ gapL ∧ g.length ≤ 9 ∧ st g = sg from ⟨hg, hgl, hsg⟩)
          clear hg hgl hsg HG
          go_upto_if 56 with fail
          go_cut [14] from 40 to 115 (fun s14 wx => s14 = .string sg ∧ wx = wo)
          case first =>
            rcases hgap with ⟨hge, rfl⟩ | ⟨hlt, gb, o, gv, m, hm5, rfl, hlc, hcg, hcm, hcf⟩
            · have hgeI : ¬ ((j : Int) < (len1 : Int)) := by omega
              have hgeb : decide ((j : Int) < (len1 : Int)) = false := decide_eq_false hgeI
              go_wp2_with fail
              all_goals (go_meet; exact ⟨rfl, rfl⟩)
            · have hltI : (j : Int) < (len1 : Int) := by omega
              have hltb : decide ((j : Int) < (len1 : Int)) = true := decide_eq_true hltI
              have hlcI : (len1 : Int) ≤ (cap1 : Int) := by omega
              have hm5I : (m : Int) < 5 := by omega
              have hm0I : (0 : Int) ≤ (m : Int) := by omega
              go_wp2_with fail
              all_goals (go_meet; exact ⟨rfl, rfl⟩)
          case rest =>
          obtain ⟨rfl, hwc⟩ := hcut
          rw [hwc]
          clear hwc wc hgap k0
          obtain ⟨gL, cL, hv, _, hgL, hcL, hcell⟩ := tok_atT (own_below HO4.out HB.out) (by omega)
          cases hv
          obtain ⟨k0, k1, k2, k3, k4⟩ := hcell wo rfl j hjL
          have HD0 := Lib.hid (HOk.out.1 (L[j]) (List.getElem_mem hjL))
          have HTk : Hid (lenS (L.take (j + 1)) = lenS (L.take j) + (spS (L[j]).2).length) := Lib.hid (by
            unfold lenS
            rw [← List.take_append_getElem hjL, List.map_append, List.sum_append]
            simp)
          obtain ⟨tk, htk⟩ : ∃ x, L[j] = x := ⟨_, rfl⟩
          have HTj := Lib.hid (fun _ : True => htk)
          rw [htk] at k0 k1 k2 k3 k4 HD0 HTk
          clear htk hcell
          obtain ⟨⟨pa, pb⟩, kk, nn, bb⟩ := tk
          obtain ⟨tb, htb⟩ : ∃ x, st bb = x := ⟨_, rfl⟩
          change _ = some (Value.int .i64 kk) at k0
          change _ = some (Value.int .i64 (pa : Int)) at k1
          change _ = some (Value.int .i64 (pb : Int)) at k2
          change _ = some (Value.int .i64 nn) at k3
          change _ = some (Value.string (st bb)) at k4
          have HSp : Hid (Calls Try.prog 15 #[.agg #[.int .i64 kk, .int .i64 (pa : Int), .int .i64 (pb : Int), .int .i64 nn, .string tb]] wo fun e w' => e = .returned (.string (st (spS (kk, nn, bb)))) ∧ Hid (Below wo.heap.size wo w')) := Lib.hid (by
            rw [← htb]
            exact spell_all (kk, nn, bb) HD0.out (pa : Int) (pb : Int) wo)
          rw [htb] at k4
          have HTb := Lib.hid (fun _ : True => htb)
          have hcLI : (L.length : Int) ≤ (vc : Int) := by omega
          have HLen : Hid ((g ++ spS (kk, nn, bb)).length ≤ 8000 + 30 * 100 + 9 ∧ ob.length + (g ++ spS (kk, nn, bb)).length ≤ lenS (L.take (j + 1)) + 9 * (j + 1) ∧ lenS (L.take (j + 1)) + 9 * (j + 1) ≤ 12500) := Lib.hid (by
            have q1 := HOk.out.2 (j + 1)
            have q2 := HTk.out
            have q3 := HBk.out.1.2.2.2
            have q4 := HGap.out.2.1
            have q5 : (spS (kk, nn, bb)).length + lenS (L.take j) = lenS (L.take (j + 1)) := by rw [q2]; exact Nat.add_comm _ _
            rw [List.length_append]
            omega)
          obtain ⟨al, hal⟩ : ∃ x, g ++ spS (kk, nn, bb) = x := ⟨_, rfl⟩
          have hadd : ∀ w, (Op.stringOp .add sg (st (spS (kk, nn, bb)))).run Try.prog w = .ok (.string (st al)) w := by
            rw [← HGap.out.2.2, ← hal]
            exact st_add g (spS (kk, nn, bb)) (by have := HLen.out.1; rw [List.length_append] at this; omega)
          have HAl := Lib.hid (fun _ : True => hal)
          rw [hal] at HLen
          obtain ⟨nal, hnal⟩ : ∃ x, al.length = x := ⟨_, rfl⟩
          have hsal : (st al).size = nal := by rw [st_size, hnal]
          have HIx : Hid (∀ (k : Nat) (h : k < al.length) (W : World), (Instr.index 9 (.string (st al)) (.int .i64 (k : Int))).run Try.prog W = .ok (.int .u8 ((al[k].toNat : Nat) : Int)) W) := Lib.hid fun k h W => idx_at al k h W
          have HNal := Lib.hid (fun _ : True => hnal)
          obtain ⟨sal, hsl⟩ : ∃ x, st al = x := ⟨_, rfl⟩
          have HSal := Lib.hid (fun _ : True => hsl)
          rw [hsl] at hadd hsal HIx
          have hsg : sg.size = g.length := by rw [← HGap.out.2.2, st_size]
          obtain ⟨ng, hng⟩ : ∃ x, g.length = x := ⟨_, rfl⟩
          rw [hng] at hsg
          have HNg : Hid (g.length = ng ∧ ng ≤ 9 ∧ ng < nal) := Lib.hid (by
            refine ⟨hng, by rw [← hng]; exact HGap.out.2.1, ?_⟩
            obtain ⟨c, t, e, _⟩ := tokS_sp_ok HD0.out ([] : List UInt8) (fun _ _ h => by cases h) (1, 1)
            rw [← hnal, ← hal, List.length_append, e, List.length_cons, ← hng]
            omega)
          clear hal hnal hsl hng htb
          generalize st (spS (kk, nn, bb)) = ssp at *
          go_wp2_with fail
          refine HSp.out.mono ?_
          rintro e w5 ⟨rfl, hb5⟩
          have HB5 : Hid (Below w4.heap.size w4 w5) := Lib.hid (HB.out.trans (hb5.out.mono HB.out.size))
          have HO5 := Lib.hid (own_below HO.out hb5.out)
          clear hb5 k0 k1 k2 k3 k4 HO HB HSp
          have HFr : Hid (∀ W, Below w4.heap.size w4 W → Calls Try.prog 13 #[.slice (some ⟨gL, 0, none⟩) L.length vc] W fun e w' => ∃ ua uc, e = .returned (.slice ua L.length uc) ∧ Hid (w'.ownsRow W.heap.size 38 5 (.slice ua L.length uc) L.length (cellsT L)) ∧ Hid (Below W.heap.size W w')) := Lib.hid fun W hW => by
            refine (from_any L (by omega) _ _ W (Lib.hid (own_below HO4.out hW))).mono ?_
            rintro e w' ⟨u, rfl, hu, hb'⟩
            obtain ⟨ua, uc, rfl⟩ := own_sl hu.out
            exact ⟨ua, uc, rfl, hu, hb'⟩
          have HPl : Hid (pl ≤ 14000 ∧ pc ≤ 14000) := Lib.hid (by
            have q1 := adL_le ob (1, 1)
            rw [← HBk.out.2] at q1
            have q2 := HLen.out
            have q3 : pl ≤ 1 + ob.length := q1.1
            have q4 : pc ≤ 1 + 1 + ob.length := q1.2
            omega)
          have HNb : Hid (nal ≤ 12500) := Lib.hid (by have q2 := HLen.out; rw [HNal.out trivial] at q2; omega)
          go_wp2_with fail
          go_loopg [10, 11, 12, 17] (nal) (fun gk s10 s11 s12 s17 wq => ∃ (k lx cx : Nat) (wa : Option Addr) (qm cm : Nat),
            s10 = .int .i64 (lx : Int) ∧ s11 = .int .i64 (cx : Int) ∧ s12 = .slice wa qm cm ∧ s17 = .int .i64 (k : Int) ∧
            Hid (k ≤ nal ∧ k + gk = nal) ∧ Hid ((lx, cx) = adL (al.take k) (pl, pc)) ∧ Hid (qm = (wnt r (g, (kk, nn, bb)) ng k).length) ∧
            Hid (wq.ownsRow w4.heap.size 38 5 (.slice wa qm cm) qm (cellsT (wnt r (g, (kk, nn, bb)) ng k))) ∧ Hid (Below w4.heap.size w4 wq))
          case atStart =>
            exact ⟨0, pl, pc, wa, qn, cq, rfl, rfl, rfl, rfl, Lib.hid ⟨by omega, by omega⟩, Lib.hid (by rw [List.take_zero]; rfl), Lib.hid (by unfold wnt; rw [if_pos (Nat.zero_le _)]; exact HQ.out), Lib.hid (by unfold wnt; rw [if_pos (Nat.zero_le _)]; exact HO5.out), HB5⟩
          case round =>
            clear HO5 HQ
            obtain ⟨k, lx, cx, wa, qm, cm, rfl, rfl, rfl, rfl, HK, HPx, HQ, HO, HB⟩ := hrel
            obtain ⟨wo, rfl⟩ : ∃ wo : World, wo = wr := ⟨_, rfl⟩
            by_cases hkn : k < nal
            · have hkI : (k : Int) < (nal : Int) := by omega
              have hnb : nal ≤ 12500 := HNb.out
              have hk0 : (0 : Int) ≤ (k : Int) := by omega
              have hix := HIx.out k (by rw [HNal.out trivial]; exact hkn)
              have HSt := Lib.hid (adL_step al k (by rw [HNal.out trivial]; exact hkn) (pl, pc))
              have hLx : lx ≤ 40000 ∧ cx ≤ 40000 := by
                have q1 := adL_le (al.take k) (pl, pc)
                rw [← HPx.out, List.length_take] at q1
                have q2 := HPl.out
                have q3 := HNb.out
                have q4 : lx ≤ pl + min k al.length := q1.1
                have q5 : cx ≤ pc + 1 + min k al.length := q1.2
                omega
              obtain ⟨hlx, hcx⟩ := hLx
              obtain ⟨y, hy⟩ : ∃ y, al[k]'(by rw [HNal.out trivial]; exact hkn) = y := ⟨_, rfl⟩
              rw [hy, ← HPx.out] at HSt
              rw [hy] at hix
              clear hy
              by_cases hkg : k = ng
              · subst hkg
                have hkgb : ((k : Int) == (k : Int)) = true := by rw [beq_iff_eq]
                have HWn2 : Hid (wnt r (g, (kk, nn, bb)) k k = wantT r (1, 1) ∧ wnt r (g, (kk, nn, bb)) k (k + 1) = wantT r (1, 1) ++ [((lx, cx), wtD (kk, nn, bb))]) := Lib.hid (by
                  have e : (lx, cx) = adL g (adL (outT r) (1, 1)) := by
                    rw [HPx.out, ← HAl.out trivial, ← HNg.out.1, List.take_left, HBk.out.2, HBk.out.1.2.1]
                  unfold wnt
                  rw [if_pos (by omega), if_neg (by omega), wantT_snoc, e]
                  exact ⟨rfl, rfl⟩)
                have HRl : Hid ((wantT r (1, 1)).length ≤ 100 ∧ qm = (wantT r (1, 1)).length ∧ wo.ownsRow w4.heap.size 38 5 (.slice wa qm cm) qm (cellsT (wantT r (1, 1)))) := Lib.hid (by
                  have q1 := HQ.out
                  have q2 := HO.out
                  rw [HWn2.out.1] at q1 q2
                  refine ⟨?_, q1, q2⟩
                  rw [wantT_len, HBk.out.1.1]
                  exact HJ.out.1)
                clear HO HQ
                by_cases h10 : y = 10
                · have HS2 : Hid ((lx + 1, 1) = adL (al.take (k + 1)) (pl, pc)) := Lib.hid (by rw [HSt.out, h10]; rfl)
                  have h10b : ((y.toNat : Int) == 10) = true := by rw [h10]; rfl
                  clear h10 HSt
                  generalize y.toNat = z at *
                  by_cases hk3 : kk = 3
                  · subst hk3
                    go_wp2_with fail
                    refine (HFr.out wo HB.out).mono ?_
                    rintro e w10 ⟨ub, ud, rfl, hu10, hb10⟩
                    obtain ⟨gf, cf, hv, _, hgf, hcf, hcell⟩ := tok_atT hu10.out (by omega)
                    cases hv
                    obtain ⟨k0, k1, k2, k3, k4⟩ := hcell w10 rfl j hjL
                    rw [HTj.out trivial] at k0 k1 k2 k3 k4
                    change _ = some (Value.int .i64 3) at k0
                    change _ = some (Value.int .i64 (pa : Int)) at k1
                    change _ = some (Value.int .i64 (pb : Int)) at k2
                    change _ = some (Value.int .i64 nn) at k3
                    change _ = some (Value.string (st bb)) at k4
                    rw [HTb.out trivial] at k4
                    have hudI : (L.length : Int) ≤ (ud : Int) := by omega
                    have hH : (w10.alloc (.cells #[.int .i64 3, .int .i64 (pa : Int), .int .i64 (pb : Int), .int .i64 nn, .string tb] 38)).heap[w10.heap.size]? = some (.cells #[.int .i64 3, .int .i64 (pa : Int), .int .i64 (pb : Int), .int .i64 nn, .string tb] 38) := by show (w10.heap.push _)[w10.heap.size]? = _; simp
                    clear hcell
                    go_wp2_with fail
                    refine (HWd.out _).mono ?_
                    rintro e w12 ⟨rfl, hb12⟩
                    have hk12 := (hb12.out.block w10.heap.size (by simp)).trans hH
                    have hbA : Below w10.heap.size w10 w12 := ((Below.refl _ _).alloc (Nat.le_refl _) _).trans (hb12.out.mono (by simp))
                    obtain ⟨⟨f0, f1, f2, f3, f4⟩, f5, f6, f7, f8, f9⟩ := kept5 hk12
                    clear hH k0 k1 k2 k3 k4 HFr
                    go_upto_region 25 with fail
                    generalize hW3 : World.setCell _ ⟨w10.heap.size, 4, none⟩ _ = w13
                    have hk13 : w13.heap[w10.heap.size]? = some (.cells #[.int .i64 3, .int .i64 0, .int .i64 0, .int .i64 0, .string (st half)] 38) := by rw [← hW3]; exact set5 hk12 _ _ _ _ _
                    have hbB : Below w10.heap.size w10 w13 := by rw [← hW3]; exact below_res5 hbA _ _ _ _ _
                    clear hW3 hbA hb12 hk12 f0 f1 f2 f3 f4 f5 f6 f7 f8 f9
                    obtain ⟨⟨f0, f1, f2, f3, f4⟩, f5, f6, f7, f8, f9⟩ := kept5 hk13
                    go_upto_region 26 with fail
                    generalize hW4 : World.setCell _ ⟨w10.heap.size, 2, none⟩ _ = w14
                    have hk14 : w14.heap[w10.heap.size]? = some (.cells #[.int .i64 3, .int .i64 (lx : Int), .int .i64 (cx : Int), .int .i64 0, .string (st half)] 38) := by rw [← hW4]; exact set2 hk13 _ _
                    have hbC : Below w10.heap.size w10 w14 := by rw [← hW4]; exact (hbB.setCell (p := ⟨w10.heap.size, 1, none⟩) (Nat.le_refl _) _).setCell (p := ⟨w10.heap.size, 2, none⟩) (Nat.le_refl _) _
                    clear hW4 hbB hk13 f0 f1 f2 f3 f4 f5 f6 f7 f8 f9
                    obtain ⟨⟨f0, f1, f2, f3, f4⟩, f5, f6, f7, f8, f9⟩ := kept5 hk14
                    have hb14 : Below wo.heap.size wo w14 := hb10.out.trans (hbC.mono hb10.out.size)
                    have h4o : w4.heap.size ≤ wo.heap.size := HB.out.size
                    obtain ⟨v', w15, hrun, hov, hbv⟩ := app_tokR (L := wantT r (1, 1)) (v := .slice wa qm cm) (own_below (HRl.out.2.1 ▸ HRl.out.2.2) hb14) (Nat.le_trans h4o hb14.size) ((lx, cx), 3, 0, half) (st half) rfl (by have := HRl.out.1; omega) 29
                    have HOv : Hid (w15.ownsRow w4.heap.size 38 5 v' (wnt r (g, (3, nn, bb)) k (k + 1)).length (cellsT (wnt r (g, (3, nn, bb)) k (k + 1)))) := Lib.hid (by
                      rw [HWn2.out.2]
                      exact hov)
                    have HBv : Hid (Below w4.heap.size w4 w15) := Lib.hid ((HB.out.trans (hb14.mono h4o)).trans hbv)
                    clear hk14 hbC hb14 h4o hov hbv HB HRl hu10 hb10
                    go_wp2_with (at_builtin; refine Lib.wpList_append_run _ rfl _ _ _ _ rfl _ _ rfl rfl _ _ hrun ?_)
                    go_roundg (nal - (k + 1))
                    case measure => have := HK.out; omega
                    case rel =>
                      obtain ⟨ya, yc, rfl⟩ := own_sl HOv.out
                      exact ⟨k + 1, lx + 1, 1, ya, _, yc, by go_num, by go_num, rfl, by go_num, Lib.hid (by have := HK.out; omega), HS2, Lib.hid rfl, HOv, HBv⟩
                  · have hk3b : ((kk : Int) == 3) = false := by rw [beq_eq_false_iff_ne]; exact hk3
                    have HWd3 : Hid (wtD (kk, nn, bb) = (kk, nn, bb)) := Lib.hid ((okD_kind HD0.out).2 hk3)
                    go_wp2_with fail
                    refine (HFr.out wo HB.out).mono ?_
                    rintro e w10 ⟨ub, ud, rfl, hu10, hb10⟩
                    obtain ⟨gf, cf, hv, _, hgf, hcf, hcell⟩ := tok_atT hu10.out (by omega)
                    cases hv
                    obtain ⟨k0, k1, k2, k3, k4⟩ := hcell w10 rfl j hjL
                    rw [HTj.out trivial] at k0 k1 k2 k3 k4
                    change _ = some (Value.int .i64 kk) at k0
                    change _ = some (Value.int .i64 (pa : Int)) at k1
                    change _ = some (Value.int .i64 (pb : Int)) at k2
                    change _ = some (Value.int .i64 nn) at k3
                    change _ = some (Value.string (st bb)) at k4
                    rw [HTb.out trivial] at k4
                    have hudI : (L.length : Int) ≤ (ud : Int) := by omega
                    have hall : Below w10.heap.size w10 (w10.alloc (.cells #[.int .i64 kk, .int .i64 (lx : Int), .int .i64 (cx : Int), .int .i64 nn, .string tb] 38)) := (Below.refl _ _).alloc (Nat.le_refl _) _
                    have hsz11 : (w10.alloc (.cells #[.int .i64 kk, .int .i64 (lx : Int), .int .i64 (cx : Int), .int .i64 nn, .string tb] 38)).heap.size = w10.heap.size + 1 := by simp
                    have hb11 : Below wo.heap.size wo (w10.alloc (.cells #[.int .i64 kk, .int .i64 (lx : Int), .int .i64 (cx : Int), .int .i64 nn, .string tb] 38)) := hb10.out.trans (hall.mono hb10.out.size)
                    have h4o : w4.heap.size ≤ wo.heap.size := HB.out.size
                    obtain ⟨v', w12, hrun, hov, hbv⟩ := app_tokR (L := wantT r (1, 1)) (v := .slice wa qm cm) (own_below (HRl.out.2.1 ▸ HRl.out.2.2) hb11) (Nat.le_trans h4o hb11.size) ((lx, cx), kk, nn, bb) tb (HTb.out trivial) (by have := HRl.out.1; omega) 29
                    rw [hsz11] at hrun
                    have HOv : Hid (w12.ownsRow w4.heap.size 38 5 v' (wnt r (g, (kk, nn, bb)) k (k + 1)).length (cellsT (wnt r (g, (kk, nn, bb)) k (k + 1)))) := Lib.hid (by
                      rw [HWn2.out.2, HWd3.out]
                      exact hov)
                    have HBv : Hid (Below w4.heap.size w4 w12) := Lib.hid (by
                      have q1 : Below w4.heap.size w4 (w10.alloc (.cells #[.int .i64 kk, .int .i64 (lx : Int), .int .i64 (cx : Int), .int .i64 nn, .string tb] 38)) := HB.out.trans (hb11.mono h4o)
                      exact q1.trans hbv)
                    clear hall hsz11 hb11 h4o hov hbv HB HRl hu10 hb10 hcell HFr
                    go_wp2_with (at_builtin; refine Lib.wpList_append_run _ rfl _ _ _ _ rfl _ _ rfl rfl _ _ hrun ?_)
                    go_roundg (nal - (k + 1))
                    case measure => have := HK.out; omega
                    case rel =>
                      obtain ⟨ya, yc, rfl⟩ := own_sl HOv.out
                      exact ⟨k + 1, lx + 1, 1, ya, _, yc, by go_num, by go_num, rfl, by go_num, Lib.hid (by have := HK.out; omega), HS2, Lib.hid rfl, HOv, HBv⟩
                · have HS2 : Hid ((lx, cx + 1) = adL (al.take (k + 1)) (pl, pc)) := Lib.hid (by rw [HSt.out, adv_else h10])
                  have h10b : ((y.toNat : Int) == 10) = false := by
                    rw [beq_eq_false_iff_ne]
                    intro e
                    exact h10 (UInt8.toNat_inj.1 (by show y.toNat = 10; omega))
                  clear h10 HSt
                  generalize y.toNat = z at *
                  by_cases hk3 : kk = 3
                  · subst hk3
                    go_wp2_with fail
                    refine (HFr.out wo HB.out).mono ?_
                    rintro e w10 ⟨ub, ud, rfl, hu10, hb10⟩
                    obtain ⟨gf, cf, hv, _, hgf, hcf, hcell⟩ := tok_atT hu10.out (by omega)
                    cases hv
                    obtain ⟨k0, k1, k2, k3, k4⟩ := hcell w10 rfl j hjL
                    rw [HTj.out trivial] at k0 k1 k2 k3 k4
                    change _ = some (Value.int .i64 3) at k0
                    change _ = some (Value.int .i64 (pa : Int)) at k1
                    change _ = some (Value.int .i64 (pb : Int)) at k2
                    change _ = some (Value.int .i64 nn) at k3
                    change _ = some (Value.string (st bb)) at k4
                    rw [HTb.out trivial] at k4
                    have hudI : (L.length : Int) ≤ (ud : Int) := by omega
                    have hH : (w10.alloc (.cells #[.int .i64 3, .int .i64 (pa : Int), .int .i64 (pb : Int), .int .i64 nn, .string tb] 38)).heap[w10.heap.size]? = some (.cells #[.int .i64 3, .int .i64 (pa : Int), .int .i64 (pb : Int), .int .i64 nn, .string tb] 38) := by show (w10.heap.push _)[w10.heap.size]? = _; simp
                    clear hcell
                    go_wp2_with fail
                    refine (HWd.out _).mono ?_
                    rintro e w12 ⟨rfl, hb12⟩
                    have hk12 := (hb12.out.block w10.heap.size (by simp)).trans hH
                    have hbA : Below w10.heap.size w10 w12 := ((Below.refl _ _).alloc (Nat.le_refl _) _).trans (hb12.out.mono (by simp))
                    obtain ⟨⟨f0, f1, f2, f3, f4⟩, f5, f6, f7, f8, f9⟩ := kept5 hk12
                    clear hH k0 k1 k2 k3 k4 HFr
                    go_upto_region 25 with fail
                    generalize hW3 : World.setCell _ ⟨w10.heap.size, 4, none⟩ _ = w13
                    have hk13 : w13.heap[w10.heap.size]? = some (.cells #[.int .i64 3, .int .i64 0, .int .i64 0, .int .i64 0, .string (st half)] 38) := by rw [← hW3]; exact set5 hk12 _ _ _ _ _
                    have hbB : Below w10.heap.size w10 w13 := by rw [← hW3]; exact below_res5 hbA _ _ _ _ _
                    clear hW3 hbA hb12 hk12 f0 f1 f2 f3 f4 f5 f6 f7 f8 f9
                    obtain ⟨⟨f0, f1, f2, f3, f4⟩, f5, f6, f7, f8, f9⟩ := kept5 hk13
                    go_upto_region 26 with fail
                    generalize hW4 : World.setCell _ ⟨w10.heap.size, 2, none⟩ _ = w14
                    have hk14 : w14.heap[w10.heap.size]? = some (.cells #[.int .i64 3, .int .i64 (lx : Int), .int .i64 (cx : Int), .int .i64 0, .string (st half)] 38) := by rw [← hW4]; exact set2 hk13 _ _
                    have hbC : Below w10.heap.size w10 w14 := by rw [← hW4]; exact (hbB.setCell (p := ⟨w10.heap.size, 1, none⟩) (Nat.le_refl _) _).setCell (p := ⟨w10.heap.size, 2, none⟩) (Nat.le_refl _) _
                    clear hW4 hbB hk13 f0 f1 f2 f3 f4 f5 f6 f7 f8 f9
                    obtain ⟨⟨f0, f1, f2, f3, f4⟩, f5, f6, f7, f8, f9⟩ := kept5 hk14
                    have hb14 : Below wo.heap.size wo w14 := hb10.out.trans (hbC.mono hb10.out.size)
                    have h4o : w4.heap.size ≤ wo.heap.size := HB.out.size
                    obtain ⟨v', w15, hrun, hov, hbv⟩ := app_tokR (L := wantT r (1, 1)) (v := .slice wa qm cm) (own_below (HRl.out.2.1 ▸ HRl.out.2.2) hb14) (Nat.le_trans h4o hb14.size) ((lx, cx), 3, 0, half) (st half) rfl (by have := HRl.out.1; omega) 29
                    have HOv : Hid (w15.ownsRow w4.heap.size 38 5 v' (wnt r (g, (3, nn, bb)) k (k + 1)).length (cellsT (wnt r (g, (3, nn, bb)) k (k + 1)))) := Lib.hid (by
                      rw [HWn2.out.2]
                      exact hov)
                    have HBv : Hid (Below w4.heap.size w4 w15) := Lib.hid ((HB.out.trans (hb14.mono h4o)).trans hbv)
                    clear hk14 hbC hb14 h4o hov hbv HB HRl hu10 hb10
                    go_wp2_with (at_builtin; refine Lib.wpList_append_run _ rfl _ _ _ _ rfl _ _ rfl rfl _ _ hrun ?_)
                    go_roundg (nal - (k + 1))
                    case measure => have := HK.out; omega
                    case rel =>
                      obtain ⟨ya, yc, rfl⟩ := own_sl HOv.out
                      exact ⟨k + 1, lx, cx + 1, ya, _, yc, rfl, by go_num, rfl, by go_num, Lib.hid (by have := HK.out; omega), HS2, Lib.hid rfl, HOv, HBv⟩
                  · have hk3b : ((kk : Int) == 3) = false := by rw [beq_eq_false_iff_ne]; exact hk3
                    have HWd3 : Hid (wtD (kk, nn, bb) = (kk, nn, bb)) := Lib.hid ((okD_kind HD0.out).2 hk3)
                    go_wp2_with fail
                    refine (HFr.out wo HB.out).mono ?_
                    rintro e w10 ⟨ub, ud, rfl, hu10, hb10⟩
                    obtain ⟨gf, cf, hv, _, hgf, hcf, hcell⟩ := tok_atT hu10.out (by omega)
                    cases hv
                    obtain ⟨k0, k1, k2, k3, k4⟩ := hcell w10 rfl j hjL
                    rw [HTj.out trivial] at k0 k1 k2 k3 k4
                    change _ = some (Value.int .i64 kk) at k0
                    change _ = some (Value.int .i64 (pa : Int)) at k1
                    change _ = some (Value.int .i64 (pb : Int)) at k2
                    change _ = some (Value.int .i64 nn) at k3
                    change _ = some (Value.string (st bb)) at k4
                    rw [HTb.out trivial] at k4
                    have hudI : (L.length : Int) ≤ (ud : Int) := by omega
                    have hall : Below w10.heap.size w10 (w10.alloc (.cells #[.int .i64 kk, .int .i64 (lx : Int), .int .i64 (cx : Int), .int .i64 nn, .string tb] 38)) := (Below.refl _ _).alloc (Nat.le_refl _) _
                    have hsz11 : (w10.alloc (.cells #[.int .i64 kk, .int .i64 (lx : Int), .int .i64 (cx : Int), .int .i64 nn, .string tb] 38)).heap.size = w10.heap.size + 1 := by simp
                    have hb11 : Below wo.heap.size wo (w10.alloc (.cells #[.int .i64 kk, .int .i64 (lx : Int), .int .i64 (cx : Int), .int .i64 nn, .string tb] 38)) := hb10.out.trans (hall.mono hb10.out.size)
                    have h4o : w4.heap.size ≤ wo.heap.size := HB.out.size
                    obtain ⟨v', w12, hrun, hov, hbv⟩ := app_tokR (L := wantT r (1, 1)) (v := .slice wa qm cm) (own_below (HRl.out.2.1 ▸ HRl.out.2.2) hb11) (Nat.le_trans h4o hb11.size) ((lx, cx), kk, nn, bb) tb (HTb.out trivial) (by have := HRl.out.1; omega) 29
                    rw [hsz11] at hrun
                    have HOv : Hid (w12.ownsRow w4.heap.size 38 5 v' (wnt r (g, (kk, nn, bb)) k (k + 1)).length (cellsT (wnt r (g, (kk, nn, bb)) k (k + 1)))) := Lib.hid (by
                      rw [HWn2.out.2, HWd3.out]
                      exact hov)
                    have HBv : Hid (Below w4.heap.size w4 w12) := Lib.hid (by
                      have q1 : Below w4.heap.size w4 (w10.alloc (.cells #[.int .i64 kk, .int .i64 (lx : Int), .int .i64 (cx : Int), .int .i64 nn, .string tb] 38)) := HB.out.trans (hb11.mono h4o)
                      exact q1.trans hbv)
                    clear hall hsz11 hb11 h4o hov hbv HB HRl hu10 hb10 hcell HFr
                    go_wp2_with (at_builtin; refine Lib.wpList_append_run _ rfl _ _ _ _ rfl _ _ rfl rfl _ _ hrun ?_)
                    go_roundg (nal - (k + 1))
                    case measure => have := HK.out; omega
                    case rel =>
                      obtain ⟨ya, yc, rfl⟩ := own_sl HOv.out
                      exact ⟨k + 1, lx, cx + 1, ya, _, yc, rfl, by go_num, rfl, by go_num, Lib.hid (by have := HK.out; omega), HS2, Lib.hid rfl, HOv, HBv⟩
              · have hkgI : ¬ ((k : Int) = (ng : Int)) := by omega
                have hkgb : ((k : Int) == (ng : Int)) = false := by rw [beq_eq_false_iff_ne]; exact hkgI
                have HWn : Hid (wnt r (g, (kk, nn, bb)) ng (k + 1) = wnt r (g, (kk, nn, bb)) ng k) := Lib.hid (by
                  unfold wnt
                  by_cases h : k ≤ ng
                  · rw [if_pos h, if_pos (by omega)]
                  · rw [if_neg h, if_neg (by omega)])
                by_cases h10 : y = 10
                · have HS2 : Hid ((lx + 1, 1) = adL (al.take (k + 1)) (pl, pc)) := Lib.hid (by rw [HSt.out, h10]; rfl)
                  have h10b : ((y.toNat : Int) == 10) = true := by rw [h10]; rfl
                  clear h10 HSt
                  generalize y.toNat = z at *
                  go_wp2_with fail
                  go_roundg (nal - (k + 1))
                  case measure => have := HK.out; omega
                  case rel => exact ⟨k + 1, lx + 1, 1, wa, qm, cm, by go_num, by go_num, rfl, by go_num, Lib.hid (by have := HK.out; omega), HS2, Lib.hid (by rw [HWn.out]; exact HQ.out), Lib.hid (by rw [HWn.out]; exact HO.out), HB⟩
                · have HS2 : Hid ((lx, cx + 1) = adL (al.take (k + 1)) (pl, pc)) := Lib.hid (by rw [HSt.out, adv_else h10])
                  have h10b : ((y.toNat : Int) == 10) = false := by
                    rw [beq_eq_false_iff_ne]
                    intro e
                    exact h10 (UInt8.toNat_inj.1 (by show y.toNat = 10; omega))
                  clear h10 HSt
                  generalize y.toNat = z at *
                  go_wp2_with fail
                  go_roundg (nal - (k + 1))
                  case measure => have := HK.out; omega
                  case rel => exact ⟨k + 1, lx, cx + 1, wa, qm, cm, rfl, by go_num, rfl, by go_num, Lib.hid (by have := HK.out; omega), HS2, Lib.hid (by rw [HWn.out]; exact HQ.out), Lib.hid (by rw [HWn.out]; exact HO.out), HB⟩
            · have hkn' : k = nal := by have := HK.out; omega
              subst hkn'
              have hadd2 : ∀ w, (Op.stringOp .add (st ob) sal).run Try.prog w = .ok (.string (st (ob ++ al))) w := by
                rw [← HSal.out trivial]
                exact st_add ob al (by have := HLen.out; first | omega | (unfold maxLen; omega))
              have HW2 : Hid (wnt r (g, (kk, nn, bb)) ng k = wantT (r ++ [(g, (kk, nn, bb))]) (1, 1)) := Lib.hid (by
                unfold wnt
                rw [if_neg (by have := HNg.out.2.2; omega)])
              have HBk2 : Hid (Blk L (j + 1) (r ++ [(g, (kk, nn, bb))]) (ob ++ al) ∧ (lx, cx) = adL (ob ++ al) (1, 1)) := Lib.hid (by
                refine ⟨⟨?_, ?_, ?_, ?_⟩, ?_⟩
                · rw [List.length_append, HBk.out.1.1]; rfl
                · rw [outT_snoc, ← HBk.out.1.2.1, HAl.out trivial]
                · intro x hx
                  rcases List.mem_append.1 hx with hx | hx
                  · exact HBk.out.1.2.2.1 x hx
                  · rw [List.mem_singleton] at hx
                    subst hx
                    exact ⟨HGap.out.1, HD0.out⟩
                · rw [List.length_append]
                  exact HLen.out.2.1
                · rw [HPx.out, adL_app, ← HBk.out.2, List.take_of_length_le (by rw [HNal.out trivial]; exact Nat.le_refl _)])
              go_wp2_with fail
              go_roundg (L.length - (j + 1))
              case measure => have := HJ.out; omega
              case rel =>
                exact ⟨j + 1, r ++ [(g, (kk, nn, bb))], ob ++ al, lx, cx, wa, qm, cm, rfl, rfl, rfl, rfl, by go_num, Lib.hid ⟨by omega, by omega, by omega⟩, HBk2, Lib.hid (by rw [← HW2.out]; exact HQ.out), Lib.hid (by rw [← HW2.out]; exact HO.out), HB⟩
        · have hje : ((j : Int) < (L.length : Int) ∧ ¬ (j : Int) < 100) ∨ ¬ (j : Int) < (L.length : Int) := by omega
          have HSc : Hid (∀ W, Calls Try.prog 10 #[.string (st (ob ++ [10, 59]))] W fun e w' => ∃ va vc, e = .returned (.tuple #[.slice va (wantT r (1, 1)).length vc, .agg #[.int .i64 0, .int .i64 0], .int .i64 0]) ∧ Hid (w'.ownsRow W.heap.size 44 5 (.slice va (wantT r (1, 1)).length vc) (wantT r (1, 1)).length (cellsT (wantT r (1, 1)))) ∧ Hid (Below W.heap.size W w')) := Lib.hid (fun W => by
            have q1 := scan_blanks r HBk.out.1.2.2.1
            rw [← HBk.out.1.2.1] at q1
            have q2 := HOk.out.2 j
            have q3 := HBk.out.1.2.2.2
            have q4 := HJ.out
            refine (lexScan_ok _ (by rw [List.length_append]; show _ + 2 ≤ _; omega) _ q1 W).mono ?_
            rintro e w' ⟨v, rfl, ho, hb⟩
            obtain ⟨va, vc, rfl⟩ := own_sl ho.out
            exact ⟨va, vc, rfl, ho, hb⟩)
          have hadd3 : ∀ w, (Op.stringOp .add (st ob) ⟨#[10, 59]⟩).run Try.prog w = .ok (.string (st (ob ++ [10, 59]))) w := by
            have q2 := HOk.out.2 j
            have q3 := HBk.out.1.2.2.2
            have q4 := HJ.out
            exact st_add ob [10, 59] (by show _ + 2 ≤ _; first | omega | (unfold maxLen; omega))
          have HLw : Hid ((wantT r (1, 1)).length ≤ 1000000) := Lib.hid (by rw [wantT_len, HBk.out.1.1]; have := HJ.out; omega)
          generalize wantT r (1, 1) = LW at *
          generalize st (ob ++ [10, 59]) = so at *
          have HOq : Hid (wo.ownsRow w4.heap.size 38 5 (.slice wa qn cq) LW.length (cellsT LW)) := Lib.hid (by
            have h := HO.out
            have hq := HQ.out
            rw [← hq]
            exact h)
          clear HO HQ
          rcases hje with ⟨hj1, hj2⟩ | hj1
          · go_wp2_with fail
            refine (HSc.out _).mono ?_
            rintro e w6 ⟨xa, xc, rfl, ho6, hb6⟩
            go_wp2_with fail
            generalize h3 : World.alloc w6 _ = w7
            have hb7 : Below w6.heap.size w6 w7 := by rw [← h3]; exact (Below.refl _ _).alloc (Nat.le_refl _) _
            clear h3
            refine (from_any LW HLw.out _ _ w7 (Lib.hid (own_below ho6.out hb7))).mono ?_
            rintro e w8 ⟨u, rfl, hu8, hb8⟩
            obtain ⟨ua, uc, rfl⟩ := own_sl hu8.out
            have hb68 := hb7.trans (hb8.out.mono hb7.size)
            have hbo8 := hb6.out.trans (hb68.mono hb6.out.size)
            have HB8 := Lib.hid (HB4.out.trans ((HB.out.trans (hbo8.mono HB.out.size)).mono HB4.out.size))
            have HSm := Lib.hid (same_yes LW HLw.out _ (.slice wa qn cq) _ _ w8 hu8 (Lib.hid (own_below HOq.out hbo8)))
            clear hb68 hbo8 hb7 hb8 hb6 ho6 hu8
            go_wp2_with fail
            refine HSm.out.mono ?_
            rintro e w11 ⟨rfl, n11, rfl⟩
            go_wp2_with fail
            go_ret
            exact ⟨rfl, below_drewN HB8.out _⟩
          · go_wp2_with fail
            refine (HSc.out _).mono ?_
            rintro e w6 ⟨xa, xc, rfl, ho6, hb6⟩
            go_wp2_with fail
            generalize h3 : World.alloc w6 _ = w7
            have hb7 : Below w6.heap.size w6 w7 := by rw [← h3]; exact (Below.refl _ _).alloc (Nat.le_refl _) _
            clear h3
            refine (from_any LW HLw.out _ _ w7 (Lib.hid (own_below ho6.out hb7))).mono ?_
            rintro e w8 ⟨u, rfl, hu8, hb8⟩
            obtain ⟨ua, uc, rfl⟩ := own_sl hu8.out
            have hb68 := hb7.trans (hb8.out.mono hb7.size)
            have hbo8 := hb6.out.trans (hb68.mono hb6.out.size)
            have HB8 := Lib.hid (HB4.out.trans ((HB.out.trans (hbo8.mono HB.out.size)).mono HB4.out.size))
            have HSm := Lib.hid (same_yes LW HLw.out _ (.slice wa qn cq) _ _ w8 hu8 (Lib.hid (own_below HOq.out hbo8)))
            clear hb68 hbo8 hb7 hb8 hb6 ho6 hu8
            go_wp2_with fail
            refine HSm.out.mono ?_
            rintro e w11 ⟨rfl, n11, rfl⟩
            go_wp2_with fail
            go_ret
            exact ⟨rfl, below_drewN HB8.out _⟩
end Go.Proofs.Ytfpjeokncdlofaa
