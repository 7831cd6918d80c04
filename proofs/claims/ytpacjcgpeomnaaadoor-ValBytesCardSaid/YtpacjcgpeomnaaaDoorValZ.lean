/- A value among the arguments, opened as a tree. -/
import Derived.Test.YtpacjcgpeomnaaaDoorValO
import Derived.Deep.Slices
import Derived.Deep.Fields
import Derived.ChangeSame
import Derived.ChangeSlices
import Derived.WalkKit
namespace Go.Proofs.YtpacjcgpeomnaaaDoor
open Go.ChangeShapes Go.WideShapes Go.ChangeAt Go.RowKit
set_option linter.unusedVariables false
set_option maxRecDepth 20000

theorem row_by {w : World} {g : Nat} {F : Nat → Prop} : ∀ (L : List V) (o : Nat), (∀ i (h : i < L.length), At4 w g (o + 4 * i) L[i]) → (∀ x ∈ L, Lies F w x) → Row F w g o L
  | [], o, _, _ => by unfold Row; trivial
  | v :: vs, o, h, hl => by
    unfold Row
    refine ⟨h 0 (by simp), hl v (by simp), row_by vs (o + 4) (fun i hi => ?_) (fun x hx => hl x (List.mem_cons_of_mem _ hx))⟩
    have := h (i + 1) (by simpa using hi)
    rw [show o + 4 * (i + 1) = o + 4 + 4 * i by omega] at this
    exact this
theorem list4 {cs : List Value} (h : cs.length = 4) : ∃ a b c d, cs = [a, b, c, d] := by
  match cs, h with
  | [a, b, c, d], _ => exact ⟨a, b, c, d, rfl⟩
theorem spot_no {w : World} {x : Addr} {v : Value} (h : w.cell? (x.add 0) = some v) : ∃ g o, x = ⟨g, o, none⟩ := by
  obtain ⟨g, o, s⟩ := x
  cases s with
  | none => exact ⟨g, o, rfl⟩
  | some s =>
    simp [World.cell?, Addr.add] at h
    split at h <;> cases h
theorem wd_of {n : Int} (h : (Lit.int .i64 n).wf = true) : Wd n := by
  simp [Lit.wf, IntKind.min, IntKind.max, IntKind.signed, IntKind.bits] at h
  unfold Wd
  omega
theorem kC : Tryd.prog.cellsOf 24 = 4 := by kernel_rfl
theorem kI : Tryd.prog.cellsOf 3 = 1 := by kernel_rfl
theorem kS : Tryd.prog.cellsOf 9 = 1 := by kernel_rfl
theorem kL : Tryd.prog.cellsOf 22 = 1 := by kernel_rfl
theorem open_val {H : Type} {enc : TypeId × Value → H} {W : World} {held : Bool} (fuel : Nat) : ∀ (cs : List Value) (x : DataW H × List MemPlace), DataW.trod enc Tryd.prog W 0 (fun _ => true) held fuel 24 cs = some x → ∃ v : V, cs = v.cells ∧ Lies (· < W.heap.size) W v := by
  induction fuel using Nat.strongRecOn with
  | ind fuel ih =>
    intro cs x h
    obtain ⟨xs, n, hfu, _, hl, hlen, hf⟩ := DataW.trod_struct Tryd.underlying24 h
    rw [kC] at hl
    obtain ⟨c0, c1, c2, c3, rfl⟩ := list4 hl
    have hx4 : xs.length = 4 := hlen
    obtain ⟨y0, y1, y2, y3, rfl⟩ : ∃ a b c d, xs = [a, b, c, d] := by
      match xs, hx4 with
      | [a, b, c, d], _ => exact ⟨a, b, c, d, rfl⟩
    have g0 : DataW.trod enc Tryd.prog W 0 (fun _ => true) held n 3 (([c0, c1, c2, c3].drop 0).take (Tryd.prog.cellsOf 3)) = some y0 := hf 0 _ rfl
    have g1 : DataW.trod enc Tryd.prog W 0 (fun _ => true) held n 3 (([c0, c1, c2, c3].drop 1).take (Tryd.prog.cellsOf 3)) = some y1 := hf 1 _ rfl
    have g2 : DataW.trod enc Tryd.prog W 0 (fun _ => true) held n 9 (([c0, c1, c2, c3].drop 2).take (Tryd.prog.cellsOf 9)) = some y2 := hf 2 _ rfl
    have g3 : DataW.trod enc Tryd.prog W 0 (fun _ => true) held n 22 (([c0, c1, c2, c3].drop 3).take (Tryd.prog.cellsOf 22)) = some y3 := hf 3 _ rfl
    rw [kI] at g0 g1
    rw [kS] at g2
    rw [kL] at g3
    obtain ⟨k, e0, _, hk⟩ := DataW.trod_int Tryd.underlying3 g0
    obtain ⟨m, e1, _, hm⟩ := DataW.trod_int Tryd.underlying3 g1
    obtain ⟨s, e2, _, hs⟩ := DataW.trod_string Tryd.underlying9 g2
    have e0 : [c0] = [Value.int .i64 k] := e0
    have e1 : [c1] = [Value.int .i64 m] := e1
    have e2 : [c2] = [Value.string s] := e2
    cases e0; cases e1; cases e2
    rcases DataW.trod_slice Tryd.underlying22 g3 with ⟨e3, _⟩ | ⟨a, len, cap, elems, rest, n2, hn2, e3, _, _, hlc, hcm, hle, hel, _, _⟩
    · have e3 : [c3] = [Value.slice none 0 0] := e3
      cases e3
      exact ⟨.mk k m s none 0 [], rfl, Lies.of ⟨wd_of hk, wd_of hm, hs, Nat.le_refl _, by show 0 ≤ maxLen; unfold maxLen; omega⟩ (.inl rfl)⟩
    · have e3 : [c3] = [Value.slice (some a) len cap] := e3
      cases e3
      have key : ∀ i, ∃ v : V, i < len → (∀ q, q < 4 → W.cell? (a.add (i * 4 + q)) = v.cells[q]?) ∧ Lies (· < W.heap.size) W v := fun i => by
        by_cases hi : i < len
        · have h1 := hel i hi
          rw [List.getElem?_eq_getElem (by omega), kC] at h1
          obtain ⟨cs', hc, ht⟩ := Option.bind_eq_some_iff.1 h1
          obtain ⟨v, rfl, hv⟩ := ih n2 (by omega) _ _ ht
          obtain ⟨_, _, hat⟩ := World.cells?_some hc
          refine ⟨v, fun _ => ⟨fun q hq => ?_, hv⟩⟩
          rw [← Go.Deep.add_add]
          exact hat q hq
        · exact ⟨.mk 0 0 ⟨#[]⟩ none 0 [], fun h => absurd h hi⟩
      obtain ⟨F, hF⟩ := Classical.axiomOfChoice key
      have hll : ((List.range len).map F).length = len := by simp
      refine ⟨.mk k m s (some a) cap ((List.range len).map F), by unfold V.cells V.k V.n V.t V.a V.ks V.cap; simp only [hll], Lies.of ⟨wd_of hk, wd_of hm, hs, by show ((List.range len).map F).length ≤ cap; rw [hll]; exact hlc, hcm⟩ ?_⟩
      by_cases h0 : len = 0
      · exact .inl (by show (List.range len).map F = []; rw [h0]; rfl)
      · right
        have hc0 := (hF 0 (by omega)).1 0 (by omega)
        obtain ⟨g, o, rfl⟩ := spot_no (w := W) (x := a) (v := .int .i64 (F 0).k) (show W.cell? (a.add (0 * 4 + 0)) = _ from hc0)
        have hcell : ∀ i, i < len → ∀ q, q < 4 → W.cell? ⟨g, o + 4 * i + q, none⟩ = (F i).cells[q]? := fun i hi q hq => by
          have := (hF i hi).1 q hq
          have e : (⟨g, o, none⟩ : Addr).add (i * 4 + q) = ⟨g, o + 4 * i + q, none⟩ := by unfold Addr.add; split <;> simp_all <;> omega
          rw [e] at this
          exact this
        have hg : g < W.heap.size := by
          have := hcell 0 (by omega) 0 (by omega)
          rcases Nat.lt_or_ge g W.heap.size with h | h
          · exact h
          · simp [World.cell?, Array.getElem?_eq_none h, V.cells] at this
        refine ⟨g, o, rfl, hg, row_by _ o (fun i hi => ?_) (fun x hx => ?_)⟩
        · have hi : i < len := by have h : i < ((List.range len).map F).length := hi; rw [hll] at h; exact h
          have e : ((List.range len).map F)[i]'(by rw [hll]; exact hi) = F i := by simp
          show At4 W g (o + 4 * i) (((List.range len).map F)[i]'(by rw [hll]; exact hi))
          rw [e]
          exact ⟨hcell i hi 0 (by omega), hcell i hi 1 (by omega), hcell i hi 2 (by omega), hcell i hi 3 (by omega)⟩
        · obtain ⟨i, hi, rfl⟩ := List.mem_map.1 hx
          exact (hF i (List.mem_range.1 hi)).2
end Go.Proofs.YtpacjcgpeomnaaaDoor
