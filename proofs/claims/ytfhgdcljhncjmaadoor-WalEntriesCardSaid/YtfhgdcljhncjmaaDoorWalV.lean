/- The bytes of a record, part by part (slices.Chunk): its closure's contract. -/
import Derived.Test.YtfhgdcljhncjmaaDoorWalU
import Derived.Test.YtfhgdcljhncjmaaDoorRegIn
import Derived.RangeFuncNested
import Derived.RangeFuncBound
import Derived.RangeFuncLeaves
import Derived.Shelf.Abstract
import Derived.Shelf.RegionOpen
import Derived.OwnWalkIn
import Derived.TacticsInMore
import Derived.LoopNIn
import Derived.LoopIn
namespace Go.Proofs.YtfhgdcljhncjmaaDoor
open Go.ChangeShapes Go.WideShapes Go.ChangeAt Go.RowKit Go.Shelf
set_option linter.unusedVariables false
set_option maxRecDepth 100000
attribute [local go_sem] Oper.semAt_some

theorem chunk_any (sp : Option Addr) (len cap : Nat) (w : World) :
    Calls Tryd.prog 54 #[.slice sp len cap, .int .i64 511] w fun e w' => e = .returned (.func (.func 75) #[] #[.pointer (some ⟨w.heap.size, 0, none⟩), .pointer (some ⟨w.heap.size + 1, 0, none⟩)]) ∧ w' = (w.alloc (.cells #[.slice sp len cap] 34)).alloc (.cells #[.int .i64 511] 3) := by
  go_enter Tryd.func54, Tryd.ntmps54
  go_wp2_with fail
  go_ret
  exact ⟨rfl, rfl⟩
/-- cells stay: but for those of a disk, and of one block -/
def KeepC (g X : Nat) (w w' : World) : Prop := (∀ (q : Nat) (cs : Array Value) (t : TypeId) (fr : Nat × Nat), q ≠ X → w.heap[q]? = some (Obj.cells cs t fr) → ¬ DiskT t → w'.heap[q]? = some (Obj.cells cs t fr)) ∧
  (g ≠ X → ∀ (q : Nat) (cs : Array Value) (fr : Nat × Nat), q ≠ X → w.heap[q]? = some (Obj.cells cs 9 fr) → Foe g q w → w'.heap[q]? = some (Obj.cells cs 9 fr) ∧ Foe g q w')
theorem KeepC.refl {g : Nat} (X : Nat) (w : World) : KeepC g X w w := ⟨fun _ _ _ _ _ h _ => h, fun _ _ _ _ _ h k => ⟨h, k⟩⟩
theorem KeepC.trans {g X : Nat} {a b c : World} (h : KeepC g X a b) (k : KeepC g X b c) : KeepC g X a c := ⟨fun q cs t fr hx hq ht => k.1 q cs t fr hx (h.1 q cs t fr hx hq ht) ht, fun hg q cs fr hx hq hf => k.2 hg q cs fr hx (h.2 hg q cs fr hx hq hf).1 (h.2 hg q cs fr hx hq hf).2⟩
theorem KeepC.of_keep {g X : Nat} {w w' : World} (h : KeepT g w w') : KeepC g X w w' := ⟨fun q cs t fr _ hq ht => h.cells hq ht, fun _ q cs fr _ hq hf => h.2 q cs fr hq hf⟩
theorem KeepC.of_below {g X : Nat} {w w' : World} (h : Below w.heap.size w w') : KeepC g X w w' := KeepC.of_keep (KeepT.of_below h)
theorem Foe.same {g q : Nat} {w w' : World} (hf : Foe g q w) (h : ∀ cs fr, w.heap[g]? = some (Obj.cells cs 92 fr) → w'.heap[g]? = w.heap[g]?) : Foe g q w' := by
  obtain ⟨vn, vl, vw, st, ar, le, off, hh, h2⟩ := hf
  refine ⟨vn, vl, vw, st, ar, le, off, ?_, h2⟩
  unfold Fk.Head at hh ⊢
  rw [h _ _ hh]; exact hh
theorem KeepC.of_put {g X : Nat} {w : World} (W : World) (l : Nat) (o o' : Obj) (_ : w.heap.size ≤ l) (h : W.heap[l]? = some o) (ho : o.isCells = false) (_ : o.isWalk = false) : KeepC g X W (W.putObj l o') := by
  have hne : ∀ {q cs t fr}, W.heap[q]? = some (Obj.cells cs t fr) → q ≠ l := fun hq e => by
    rw [e, h] at hq
    cases hq
    simp [Obj.isCells] at ho
  exact ⟨fun q cs t fr hx hq ht => by rw [World.putObj_heap_other (hne hq)]; exact hq, fun _ q cs fr hx hq hf => ⟨by rw [World.putObj_heap_other (hne hq)]; exact hq, hf.same fun cs fr hg => World.putObj_heap_other (hne hg)⟩⟩
theorem set_other {w : World} {X q : Nat} (h : q ≠ X) (u : Value) : (w.setCell ⟨X, 0, none⟩ u).heap[q]? = w.heap[q]? := by
  unfold World.setCell
  simp only
  rw [Array.getElem?_modify]
  rw [if_neg (Ne.symm h)]
theorem KeepC.of_set {g X : Nat} (w : World) (u : Value) : KeepC g X w (w.setCell ⟨X, 0, none⟩ u) := ⟨fun q cs t fr hx hq ht => by rw [set_other hx]; exact hq, fun hg q cs fr hx hq hf => ⟨by rw [set_other hx]; exact hq, hf.same fun _ _ _ => set_other hg u⟩⟩
theorem notTB : ¬ DiskT 34 := by unfold DiskT; decide
theorem notTI : ¬ DiskT 3 := by unfold DiskT; decide
/-- how many bytes a part has -/
def qOf (len x : Nat) : Nat := min (len - 511 * x) 511
def encC (gb ob len : Nat) (x : Nat) : Array Value := #[.slice (some ⟨gb, ob + 511 * x, none⟩) (qOf len x) (qOf len x)]
theorem box_cell {w : World} {g : Nat} {v : Value} {t : TypeId} (h : w.heap[g]? = some (.cells #[v] t (0, 0))) : w.cell? ⟨g, 0, none⟩ = some v := by simp [World.cell?, h]
theorem grown_of_below {W W' : World} (h : Below W.heap.size W W') : W.grownBy W' none := ⟨h.os, h.tape, h.output, h.size, fun k hk _ => h.block k hk⟩
set_option maxHeartbeats 2000000 in
theorem chunk1_in {gd : Nat} (F : Fence) (n : Nat) (hFn : F.fn 75) (hO : OpenF F) (hro : F.round = none) (hn : 1 ≤ n) (l Bs Bn X gb ob len cap : Nat) (sp : Option Addr) (hsp : 0 < len → sp = some ⟨gb, ob, none⟩) (hlen : len ≤ 100000) (hlc : len ≤ cap) (J Jx : List Nat → World → Prop)
    (hJa : ∀ pre W W', J pre W → Below W.heap.size W W' → J pre W')
    (hY : ∀ pre x W, J pre W → pre.length < nparts len → YieldAt F (n - 1) Tryd.prog l (encC gb ob len x) W fun e W' =>
      (e = .returned (.bool true) ∧ J (pre ++ [x]) W' ∧ KeepC gd X W W') ∨ (e = .returned (.bool false) ∧ Jx (pre ++ [x]) W'))
    (W : World) (hXs : Bs ≠ X) (hXn : Bn ≠ X) (hBs : W.heap[Bs]? = some (.cells #[.slice sp len cap] 34 (0, 0))) (hBn : W.heap[Bn]? = some (.cells #[.int .i64 511] 3 (0, 0))) (h0 : J [] W) :
    CallsIn F n Tryd.prog 75 #[.func (.yield l) #[] #[], .pointer (some ⟨Bs, 0, none⟩), .pointer (some ⟨Bn, 0, none⟩)] W fun e W' => (∃ v, e = .returned v) ∧
      ((∃ ys, ys = List.range (nparts len) ∧ J ys W') ∨ (∃ pre, (∃ k, k ≤ nparts len ∧ pre = List.range k) ∧ Jx pre W')) := by
  refine callsIn_of_wp Tryd.func75 rfl hFn ?_ hro
  simp only [Tryd.ntmps75, List.size_toArray, List.length_cons, List.length_nil, Nat.reduceAdd, Nat.reduceSub, Array.replicate_succ, Array.replicate_zero, List.push_toArray, List.append_toArray, List.nil_append, List.cons_append]
  have HY := Lib.hid hY
  have HJa := Lib.hid hJa
  have HBs := Lib.hid hBs
  have HBn := Lib.hid hBn
  have HSp := Lib.hid hsp
  clear hY hJa hBs hBn hsp
  gi_wp2
  gi_loopw [4] (fun i wr => ∃ k m : Nat, i = .int .i64 (m : Int) ∧ m ≤ len + 511 ∧ Hid (m = 511 * k ∧ k ≤ nparts len) ∧ Hid (J (List.range k) wr) ∧ Hid (KeepC gd X W wr))
    (fun i _ => len + 511 - (intOf i).toNat)
  case atStart => exact ⟨0, 0, rfl, by omega, Lib.hid ⟨rfl, by omega⟩, Lib.hid h0, Lib.hid (KeepC.refl _ _)⟩
  case round =>
    obtain ⟨k, m, rfl, hm, hmk, hJs, hnx⟩ := hrel
    have hc1 := box_cell (hnx.out.1 _ _ _ _ hXs HBs.out notTB)
    have hc2 := box_cell (hnx.out.1 _ _ _ _ hXn HBn.out notTI)
    by_cases hlt : m < len
    · have hspe := HSp.out (by omega)
      subst hspe
      obtain ⟨q, hq⟩ : ∃ q, qOf len k = q := ⟨_, rfl⟩
      have hq1 : q = min (len - m) 511 := by rw [← hq, hmk.out.1]; rfl
      have hq2 : 1 ≤ q ∧ q ≤ 511 ∧ m + q ≤ len ∧ m + q ≤ cap := by omega
      have hq3 : min (511 : Int) ((len - m : Nat) : Int) = (q : Int) := by omega
      have hq4 : (if ((len - m : Nat) : Int) < 511 then ((len - m : Nat) : Int) else 511) = (q : Int) := by split <;> omega
      have hm1 : (m : Int) ≤ (len : Int) := by omega
      have hm2 : (m : Int) ≤ (cap : Int) := by omega
      have hm3 : ¬ cap - m = 0 := by omega
      have hm4 : ¬ cap = m := by omega
      have hw5 : IntKind.i64.wrap ((m : Int) + (q : Int)) = ((m + q : Nat) : Int) := by rw [IntKind.wrap_i64]; omega
      have hkn : k < nparts len := by have := hmk.out; unfold nparts; omega
      have HQ := Lib.hid (fun _ : True => hq)
      have HC1 := Lib.hid (fun W' (hb : Below wr.heap.size wr W') => (hb.cell (World.block_lt_of_cell? wr _ hc1)).trans hc1)
      have HC2 := Lib.hid (fun W' (hb : Below wr.heap.size wr W') => (hb.cell (World.block_lt_of_cell? wr _ hc2)).trans hc2)
      clear hq hq1
      gi_wp2
      let R : World → World → Prop := fun W W2 => Below W.heap.size W W2
      let V : Nat → Value → World → Prop := fun jX v W => match jX with | 0 => v = .int .i64 511 | 1 => v = .slice (some ⟨gb, ob, none⟩) len cap | 2 => v = .int .i64 (m : Int) | 3 => v = .slice (some ⟨gb, ob + m, none⟩) (len - m) (cap - m) | 4 => v = .int .i64 ((len - m : Nat) : Int) | 5 => v = .int .i64 (q : Int) | 6 => v = .int .i64 (q : Int) | _ => True
      refine wpIn_region_fill (by kernel_rfl) V (fun W => Below wr.heap.size wr W) R (by kernel_rfl) (by kernel_rfl) ((Below.refl _ _).drew) (fun W W2 hr hi => hi.trans (hr.mono hi.size)) ?_ ?_ ?_
      · intro jX v W W2 hr h
        match jX, h with
        | 0, h => exact h
        | 1, h => exact h
        | 2, h => exact h
        | 3, h => exact h
        | 4, h => exact h
        | 5, h => exact h
        | 6, h => exact h
        | nX + 7, h => exact h
      · intro iX o ho a W hN hi h
        match iX, ho with
        | 0, ho =>
          obtain rfl := Option.some.inj (show some _ = some o from ho)
          have e2 : a.eval (.tmp 2) = .pointer (some ⟨Bn, 0, none⟩) := hN.eval 2 (by kernel_rfl)
          have hc := HC2.out W hi
          refine fillIn_value (v := .int .i64 511) hO (by rfl) ho rfl (by rfl) (by clear h hN; have hcst : ∀ v, a.eval (.const v) = v := (fun _ => rfl); have hfun : ∀ f, a.eval (.func f) = .func (.func f) #[] #[] := (fun _ => rfl); generalize a.eval = ρ at *; go_simp) rfl (Below.refl _ _)
        | 1, ho =>
          obtain rfl := Option.some.inj (show some _ = some o from ho)
          have e1 : a.eval (.tmp 1) = .pointer (some ⟨Bs, 0, none⟩) := hN.eval 1 (by kernel_rfl)
          have hc := HC1.out W hi
          refine fillIn_value (v := .slice (some ⟨gb, ob, none⟩) len cap) hO (by rfl) ho rfl (by rfl) (by clear h hN; have hcst : ∀ v, a.eval (.const v) = v := (fun _ => rfl); have hfun : ∀ f, a.eval (.func f) = .func (.func f) #[] #[] := (fun _ => rfl); generalize a.eval = ρ at *; go_simp) rfl (Below.refl _ _)
        | 2, ho =>
          obtain rfl := Option.some.inj (show some _ = some o from ho)
          have e4 : a.eval (.tmp 4) = .int .i64 (m : Int) := hN.eval 4 (by kernel_rfl)
          refine fillIn_value (v := .int .i64 (m : Int)) hO (by rfl) ho rfl (by rfl) (by clear h hN; have hcst : ∀ v, a.eval (.const v) = v := (fun _ => rfl); have hfun : ∀ f, a.eval (.func f) = .func (.func f) #[] #[] := (fun _ => rfl); generalize a.eval = ρ at *; go_simp) rfl (Below.refl _ _)
        | 3, ho =>
          obtain rfl := Option.some.inj (show some _ = some o from ho)
          have e14 : a.eval (.tmp 14) = .slice (some ⟨gb, ob, none⟩) len cap := h ⟨1, .data⟩ (by simp) rfl
          have e15 : a.eval (.tmp 15) = .int .i64 (m : Int) := h ⟨2, .data⟩ (by simp) rfl
          refine fillIn_value (v := .slice (some ⟨gb, ob + m, none⟩) (len - m) (cap - m)) hO (by rfl) ho rfl (by rfl) (by clear h hN; have hcst : ∀ v, a.eval (.const v) = v := (fun _ => rfl); have hfun : ∀ f, a.eval (.func f) = .func (.func f) #[] #[] := (fun _ => rfl); generalize a.eval = ρ at *; go_simp) rfl (Below.refl _ _)
        | 4, ho =>
          obtain rfl := Option.some.inj (show some _ = some o from ho)
          have e16 : a.eval (.tmp 16) = .slice (some ⟨gb, ob + m, none⟩) (len - m) (cap - m) := h ⟨3, .data⟩ (by simp) rfl
          refine fillIn_value (v := .int .i64 ((len - m : Nat) : Int)) hO (by rfl) ho rfl (by rfl) (by clear h hN; have hcst : ∀ v, a.eval (.const v) = v := (fun _ => rfl); have hfun : ∀ f, a.eval (.func f) = .func (.func f) #[] #[] := (fun _ => rfl); generalize a.eval = ρ at *; go_simp) rfl (Below.refl _ _)
        | 5, ho =>
          obtain rfl := Option.some.inj (show some _ = some o from ho)
          have e13 : a.eval (.tmp 13) = .int .i64 511 := h ⟨0, .data⟩ (by simp) rfl
          have e17 : a.eval (.tmp 17) = .int .i64 ((len - m : Nat) : Int) := h ⟨4, .data⟩ (by simp) rfl
          refine fillIn_value (v := .int .i64 (q : Int)) hO (by rfl) ho rfl (by rfl) (by clear h hN; have hcst : ∀ v, a.eval (.const v) = v := (fun _ => rfl); have hfun : ∀ f, a.eval (.func f) = .func (.func f) #[] #[] := (fun _ => rfl); generalize a.eval = ρ at *; go_simp) rfl (Below.refl _ _)
        | 6, ho =>
          obtain rfl := Option.some.inj (show some _ = some o from ho)
          have e18 : a.eval (.tmp 18) = .int .i64 (q : Int) := h ⟨5, .data⟩ (by simp) rfl
          refine fillIn_value (v := .int .i64 (q : Int)) hO (by rfl) ho rfl (by rfl) (by clear h hN; have hcst : ∀ v, a.eval (.const v) = v := (fun _ => rfl); have hfun : ∀ f, a.eval (.func f) = .func (.func f) #[] #[] := (fun _ => rfl); generalize a.eval = ρ at *; go_simp) rfl (Below.refl _ _)
        | nX + 7, ho => exact absurd ho (by simp)
      · intro vals W hi h
        have u0 : vals 0 = .int .i64 511 := h 0 (by decide)
        have u1 : vals 1 = .slice (some ⟨gb, ob, none⟩) len cap := h 1 (by decide)
        have u2 : vals 2 = .int .i64 (m : Int) := h 2 (by decide)
        have u3 : vals 3 = .slice (some ⟨gb, ob + m, none⟩) (len - m) (cap - m) := h 3 (by decide)
        have u4 : vals 4 = .int .i64 ((len - m : Nat) : Int) := h 4 (by decide)
        have u5 : vals 5 = .int .i64 (q : Int) := h 5 (by decide)
        have u6 : vals 6 = .int .i64 (q : Int) := h 6 (by decide)
        generalize hA : fill _ _ _ _ = A
        have hA2 : (Act.put (Act.put (Act.put (Act.put (Act.put (Act.put (Act.put (_ : Act) (some 13) (vals 0)) (some 14) (vals 1)) (some 15) (vals 2)) (some 16) (vals 3)) (some 17) (vals 4)) (some 18) (vals 5)) (some 5) (vals 6)) = A := hA
        clear hA h V R
        rw [u0, u1, u2, u3, u4, u5, u6] at hA2
        simp only [fill, Act.put, List.setIfInBounds_toArray, List.set_cons_succ, List.set_cons_zero] at hA2
        subst hA2
        clear u0 u1 u2 u3 u4 u5 u6
        obtain ⟨w2, hw2⟩ : ∃ x, x = W := ⟨_, rfl⟩
        subst hw2
        have hc3 := HC1.out w2 hi
        have hc4 := HC2.out w2 hi
        obtain ⟨fn, tmps, assign, body, hy, hR⟩ := HY.out _ k w2 (HJa.out _ _ _ hJs.out hi) (by rw [List.length_range]; exact hkn)
        have hR := Lib.hid hR
        have hnx2 := Lib.hid (hnx.out.trans (KeepC.of_below hi))
        have ey : encC gb ob len k = #[.slice (some ⟨gb, ob + m, none⟩) q q] := by unfold encC; rw [HQ.out trivial, ← hmk.out.1]
        rw [ey] at hy
        clear ey hi HC1 HC2
        gi_wp2
        refine hR.out.mono ?_
        rintro e W3 (⟨rfl, hJ3, hk3⟩ | ⟨rfl, hJx3⟩)
        · have hJ4 := Lib.hid hJ3
          have hk4 := Lib.hid (hnx2.out.trans hk3)
          have hc5 := box_cell (hk4.out.1 _ _ _ _ hXs HBs.out notTB)
          have hc6 := box_cell (hk4.out.1 _ _ _ _ hXn HBn.out notTI)
          clear hJ3 hk3
          gi_wp2
          go_roundw
          case rel => exact ⟨k + 1, m + 511, by go_num, by omega, Lib.hid ⟨by have := hmk.out; omega, hkn⟩, by rw [List.range_succ]; exact hJ4, hk4⟩
          case measure => simp [intOf]; omega
        · have hJ4 := Lib.hid hJx3
          clear hJx3
          gi_wp2
          refine bodyPost_ret (results_none rfl _ _ _) rfl ?_
          exact ⟨⟨_, rfl⟩, .inr ⟨_, ⟨k + 1, by omega, (List.range_succ).symm⟩, hJ4.out⟩⟩
    · have hkn : k = nparts len := by have := hmk.out; unfold nparts at this ⊢; omega
      subst hkn
      gi_wp2
      go_end0
      exact ⟨⟨_, rfl⟩, .inl ⟨_, rfl, hJs.out⟩⟩
end Go.Proofs.YtfhgdcljhncjmaaDoor
