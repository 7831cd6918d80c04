/- A record's first sector: numbers one behind the other (slices.Concat). -/
import Derived.Test.YtfhgdcljhncjmaaDoorWalG
import Derived.Lib.AppendZeros
namespace Go.Proofs.YtfhgdcljhncjmaaDoor
open Go.ChangeShapes Go.WideShapes Go.ChangeAt Go.RowKit
set_option linter.unusedVariables false
set_option maxRecDepth 20000

theorem wpList_call_two {P : Program} {w : World} {ops : Array Oper} {rest : List Oper} {o : Oper} {a : Act} {Q : Exit → Act → World → Prop} (hgd : o.guard = none) (s x : Operand) (t t' : TypeId)
    (ho : o.op = .call { callee := .builtin .append, args := #[s, x], argTypes := #[t, t'] }) (v0 v1 v' : Value) (w' : World) (hs : a.eval s = v0) (hx : a.eval x = v1)
    (hrun : (Builtin.append_ #[t, t'] o.type #[v0, v1]).run P w = .ok v' w') (h : wpList P ops Q rest (a.put o.dst v') w') : wpList P ops Q (o :: rest) a w := by
  refine wpList_plain hgd fun K hK => ?_
  unfold Oper.wp
  simp [execOp, ho, resolve, invoke, builtin, hs, hx, hrun, Result.andThen]
  exact hK _ _ h
/-- an empty row of one's own, and its block -/
def Fresh (w : World) (g c : Nat) (w' : World) : Prop := w'.ownsRow w.heap.size 5 1 (.slice (some ⟨g, 0, none⟩) 0 c) 0 []
theorem grow_any (n : Nat) (hn : 0 < n) (hn2 : n ≤ 10000) (w : World) :
    Calls Tryd.prog 85 #[.slice none 0 0, .int .i64 (n : Int)] w fun e w' => ∃ c, e = .returned (.slice (some ⟨w.heap.size, 0, none⟩) 0 c) ∧ Hid (w'.ownsRow w.heap.size 5 1 (.slice (some ⟨w.heap.size, 0, none⟩) 0 c) 0 []) ∧ Hid (Below w.heap.size w w') := by
  obtain ⟨i0, hi, hz0, hz1, hz2⟩ := info_parts Fw.info8
  have hrun := Lib.run_append_nil_zeros (P := Tryd.prog) w 34 3 34 5 i0 (.int .u8 0) .i64 .i64 Tryd.underlying34 Tryd.underlying3 hi hz0 n hn (by rw [hz1]; decide) (by omega) (by rw [hz2]; omega)
  have hge := grownCap_ge w n 0 5
  have hmx := grownCap_le_maxLen w n 0 5 (by unfold maxLen; omega)
  generalize grownCap w n 0 5 = c at *
  have hown : (w.drew.alloc (.cells (Builtin.zeroCells (Value.int .u8 0).cells n ++ Builtin.zeroCells (Value.int .u8 0).cells (c - n)) 5)).ownsRow w.heap.size 5 1 (.slice (some ⟨w.drew.heap.size, 0, none⟩) 0 c) 0 [] :=
    World.ownsRow_made w.drew _ c (Nat.le_refl _) hmx (by
      rw [Array.size_append, size_zeroCells, size_zeroCells]
      have : (Value.int IntKind.u8 0).cells.size = 1 := rfl
      rw [this]; omega)
  have hb : Below w.heap.size w (w.drew.alloc (.cells (Builtin.zeroCells (Value.int .u8 0).cells n ++ Builtin.zeroCells (Value.int .u8 0).cells (c - n)) 5)) := ((Below.refl _ w).drew).alloc (Nat.le_refl _) _
  generalize (w.drew.alloc (.cells (Builtin.zeroCells (Value.int .u8 0).cells n ++ Builtin.zeroCells (Value.int .u8 0).cells (c - n)) 5)) = w2 at *
  have HO := Lib.hid hown
  have HB := Lib.hid hb
  have h1 : (0 : Int) < (n : Int) := by omega
  clear hown hb
  go_enter Tryd.func85, Tryd.ntmps85
  go_wp2_with (at_builtin; refine wpList_call_two rfl _ _ 34 3 rfl _ _ _ _ rfl rfl hrun ?_)
  go_ret
  exact ⟨c, rfl, HO, HB⟩
theorem own_app {B : Nat} {w0 w w' : World} {v : Value} {n : Nat} {xs : List Value} {e : TypeId} {z : Nat} (hb : Below B w0 w) (hs : B ≤ w.heap.size) (h : w.ownsRow B e z v n xs) (hg : w.grownBy w' v.ownBlock) : Below B w0 w' :=
  hb.grown hg hs fun k hk => by
    rcases h.2 with ⟨h0, _⟩ | ⟨g', cap, cur, hv, hb', _, _⟩
    · rw [h0] at hk; cases hk
    · rw [hv] at hk; cases hk; exact hb'
/-- parts that are there -/
def Solid (ps : List Fc.Part) : Prop := ∀ p ∈ ps, ∃ x, p.1 = some x
def lens (ps : List Fc.Part) : Nat := (Fc.all ps).length
theorem lens_snoc (ps : List Fc.Part) (k : Nat) (p : Fc.Part) (h : ps[k]? = some p) : lens (ps.take (k + 1)) = lens (ps.take k) + p.2.2.length := by
  unfold lens; rw [Fc.all_snoc ps k p h, List.length_append]
set_option maxHeartbeats 1000000 in
theorem concat_any (sp : Option Addr) (cap : Nat) (ps : List Fc.Part) (hn : ps.length ≤ 10) (h0 : 0 < lens ps) (hl : lens ps ≤ 1000) (w : World) (hc : Hid (PartsIn w sp ps)) (hso : Hid (Solid ps)) :
    Calls Tryd.prog 76 #[.slice sp ps.length cap] w fun e w' => ∃ g c, e = .returned (.slice (some ⟨g, 0, none⟩) (lens ps) c) ∧ Hid (w.heap.size ≤ g) ∧ Hid (Fc.Src w' (some ⟨g, 0, none⟩) (Fc.all ps)) ∧ Hid (Below w.heap.size w w') := by
  obtain ⟨i0, hi, hz0, hz1, hz2⟩ := info_parts Fw.info8
  obtain ⟨n, hL⟩ : ∃ n, ps.length = n := ⟨_, rfl⟩
  have HL : Hid (True → ps.length = n) := Lib.hid fun _ => hL
  rw [hL] at hn ⊢
  clear hL
  obtain ⟨T, hT⟩ : ∃ T, lens ps = T := ⟨_, rfl⟩
  have HT : Hid (True → lens ps = T) := Lib.hid fun _ => hT
  rw [hT] at h0 hl ⊢
  clear hT
  have HG := Lib.hid (fun W => grow_any T h0 (by omega) W)
  go_enter Tryd.func76, Tryd.ntmps76
  go_wp2_with fail
  go_loop [3, 11] (fun s i => ∃ m k : Nat, s = .int .i64 (m : Int) ∧ i = .int .i64 (k : Int) ∧ k ≤ n ∧ m ≤ 1000 ∧ Hid (True → m = lens (ps.take k))) (fun _ i => n - (intOf i).toNat)
  case atStart => exact ⟨0, 0, rfl, rfl, by omega, by omega, Lib.hid fun _ => by rw [List.take_zero]; rfl⟩
  case round =>
    obtain ⟨m, k, rfl, rfl, hkn, hm5, hm⟩ := hrel
    by_cases hk : k < n
    · obtain ⟨p, hp⟩ : ∃ p, ps[k]? = some p := ⟨_, List.getElem?_eq_getElem (by rw [HL.out trivial]; exact hk)⟩
      obtain ⟨g, o, hsp, hcell, hsrc', hnil⟩ := hc.out k p hp
      subst hsp
      have hroom : m + p.2.2.length ≤ 1000 := by
        rw [hm.out trivial, ← lens_snoc ps k p hp]
        have h1 := all_le ps (k + 1)
        have h2 := HT.out trivial
        unfold lens at h2 ⊢
        omega
      have HM : Hid (True → m + p.2.2.length = lens (ps.take (k + 1))) := Lib.hid fun _ => by rw [lens_snoc ps k p hp, hm.out trivial]
      obtain ⟨q, hq⟩ : ∃ q, p.2.2.length = q := ⟨_, rfl⟩
      rw [hq] at hcell hroom HM
      clear hsrc' hnil hm hq hp
      have hnn : ¬ ((m : Int) + (q : Int) < 0) := by omega
      go_wp2_with fail
      go_round
      case rel => exact ⟨m + q, k + 1, by go_num, by go_num, by omega, hroom, HM⟩
      case measure => simp [intOf]; omega
    · have HX : Hid (True → m = T) := Lib.hid fun _ => by rw [hm.out trivial, List.take_of_length_le (by rw [HL.out trivial]; omega)]; exact HT.out trivial
      obtain rfl := HX.out trivial
      clear hm HX
      go_wp2_with fail
      refine (HG.out w).mono ?_
      rintro e w1 ⟨c, rfl, hown, hbel⟩
      have HX0 : Hid (w1.ownsRow w.heap.size 5 1 (.slice (some ⟨w.heap.size, 0, none⟩) 0 c) (lens (ps.take 0)) (Fw.cells (Fc.all (ps.take 0)))) := hown
      clear hown
      go_wp2_with fail
      go_loopw [6, 27] (fun s i wr => ∃ k : Nat, i = .int .i64 (k : Int) ∧ k ≤ n ∧ Hid (wr.ownsRow w.heap.size 5 1 s (lens (ps.take k)) (Fw.cells (Fc.all (ps.take k)))) ∧ Hid (Below w.heap.size w wr)) (fun _ i _ => n - (intOf i).toNat)
      case atStart => exact ⟨0, rfl, by omega, HX0, hbel⟩
      case round =>
        rename_i s2 i2 wr
        obtain ⟨k, rfl, hkn, hrow, hbe⟩ := hrel
        by_cases hk : k < n
        · obtain ⟨p, hp⟩ : ∃ p, ps[k]? = some p := ⟨_, List.getElem?_eq_getElem (by rw [HL.out trivial]; exact hk)⟩
          obtain ⟨g, o, hsp, hcell0, hsrc', hnil⟩ := hc.out k p hp
          obtain ⟨x, hx⟩ := hso.out p (List.mem_of_getElem? hp)
          subst hsp
          obtain ⟨q, hq⟩ : ∃ q, p.2.2.length = q := ⟨_, rfl⟩
          have hcell : wr.cell? ⟨g, o + k, none⟩ = some (.slice (some x) q p.2.1) := by rw [hbe.out.cell (World.block_lt_of_cell? w _ hcell0), hcell0, hx, hq]
          have hnew : ∀ (j : Nat) (u : Value), (Fw.cells p.2.2)[j]? = some u → wr.cell? (x.add j) = some u := fun j u hu => by
            have hp0 : 0 < (Fc.cells p.2.2).length := by
              rcases Nat.eq_zero_or_pos (Fc.cells p.2.2).length with h | h
              · have h2 : Fw.cells p.2.2 = [] := List.length_eq_zero_iff.1 h
                rw [h2] at hu; simp at hu
              · exact h
            obtain ⟨ad, e, h⟩ := Fc.src_pos (Fc.src_later hsrc' hbe.out) hp0
            rw [hx] at e; cases e
            exact h j u hu
          have hsum : lens (ps.take k) + q ≤ 1000 := by
            rw [← hq, ← lens_snoc ps k p hp]
            have h1 := all_le ps (k + 1)
            have h2 := HT.out trivial
            unfold lens at h2 ⊢
            omega
          have HNW := Lib.hid hnew
          have K3 : Hid (lens (ps.take k) + q ≤ maxLen) := Lib.hid (by unfold maxLen; omega)
          have K4 : Hid ((lens (ps.take k) + q) * 1 ≤ 140737488355328) := Lib.hid (by omega)
          have K5 := Lib.hid hbe.out.size
          have KL : Hid ((Fw.cells p.2.2).length = q * 1) := Lib.hid (by rw [Fw.cells_len, hq, Nat.mul_one])
          have HE : Hid (True → lens (ps.take (k + 1)) = lens (ps.take k) + q ∧ Fw.cells (Fc.all (ps.take (k + 1))) = Fw.cells (Fc.all (ps.take k)) ++ Fw.cells p.2.2) := Lib.hid fun _ => ⟨by rw [lens_snoc ps k p hp, hq], by rw [Fc.all_snoc ps k p hp]; simp [Fw.cells]⟩
          clear hnew hsrc' hnil hcell0 hq hsum hp hx
          go_wp2_with (at_builtin; refine wpList_append_own _ rfl _ _ 34 rfl w.heap.size 5 i0 (.int .u8 0) 1 1 Tryd.underlying34 hi hz0 hz1 hz2 rfl (by decide) _ _ _ rfl hrow.out x q p.2.1 (Fw.cells p.2.2) rfl KL.out HNW.out (Fw.cells_one _) K3.out K4.out K5.out ?_; intro v' w2 hown' hgrow _)
          go_roundw
          case rel => exact ⟨k + 1, by go_num, by omega, Lib.hid (by rw [(HE.out trivial).1, (HE.out trivial).2]; exact hown'), Lib.hid (own_app hbe.out K5.out hrow.out hgrow)⟩
          case measure => simp [intOf]; omega
        · have hk' : ps.take k = ps := List.take_of_length_le (by rw [HL.out trivial]; omega)
          rw [hk'] at hrow
          obtain ⟨g, c2, rfl, a1, a2, a3⟩ := own_parts (l := Fc.all ps) hrow.out (by have := HT.out trivial; unfold lens at this; omega)
          have hlm : (Fc.all ps).length = m := HT.out trivial
          rw [hlm] at *
          have A1 := Lib.hid a1
          have A3 := Lib.hid a3
          clear a1 a2 a3 hrow hk' hlm
          go_wp2_with fail
          go_ret
          exact ⟨g, c2, rfl, A1, A3, hbe⟩
end Go.Proofs.YtfhgdcljhncjmaaDoor
