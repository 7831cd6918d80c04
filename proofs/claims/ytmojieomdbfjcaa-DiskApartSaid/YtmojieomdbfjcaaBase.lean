/- A disk in memory: its block, its two rows of sectors, what waits; has, change, Off, Steps, Arm. -/
import Derived.Test.YtmojieomdbfjcaaRows
import Derived.WalkKit
import Derived.ProofKit
import Derived.OpenShut
import Derived.Handy
import Derived.WalkLawsBesides
import Derived.BigQuiet
import Derived.Deep.QuietTactic
import Derived.Lib.Hide
import Derived.LoopTactic
import Derived.Outline
import Derived.Laws.OwnMore
import Derived.OwnWalk
import Derived.RegionTactic
namespace Go.Proofs.Ytmojieomdbfjcaa
open Go.ChangeShapes Go.WideShapes Go.ChangeAt Go.RowKit

/-- the world is as it was, but for the blocks of S and for new ones -/
structure Only (S : Nat → Prop) (w w' : World) : Prop where
  os : w'.os = w.os
  tape : w'.tape = w.tape
  output : w'.output = w.output
  size : w.heap.size ≤ w'.heap.size
  block : ∀ k, k < w.heap.size → ¬ S k → w'.heap[k]? = w.heap[k]?
theorem Only.refl (S : Nat → Prop) (w : World) : Only S w w := ⟨rfl, rfl, rfl, Nat.le_refl _, fun _ _ _ => rfl⟩
theorem Only.trans {S : Nat → Prop} {a b c : World} (h : Only S a b) (k : Only S b c) : Only S a c :=
  ⟨k.os.trans h.os, k.tape.trans h.tape, k.output.trans h.output, Nat.le_trans h.size k.size, fun i hi hs => (k.block i (Nat.lt_of_lt_of_le hi h.size) hs).trans (h.block i hi hs)⟩
theorem Only.mono {S S' : Nat → Prop} {w w' : World} (h : Only S w w') (hs : ∀ k, k < w.heap.size → S k → S' k) : Only S' w w' := ⟨h.os, h.tape, h.output, h.size, fun k hk hn => h.block k hk fun x => hn (hs k hk x)⟩
theorem Only.below {S : Nat → Prop} {w w' : World} {B : Nat} (h : Only S w w') (hs : ∀ k, S k → B ≤ k) (hB : B ≤ w.heap.size) : Below B w w' := ⟨h.os, h.tape, h.output, h.size, fun k hk => h.block k (by omega) fun x => by have := hs k x; omega⟩
theorem Only.of_below {S : Nat → Prop} {w w' : World} (h : Below w.heap.size w w') : Only S w w' := ⟨h.os, h.tape, h.output, h.size, fun k hk _ => h.block k hk⟩
theorem Only.alloc {S : Nat → Prop} {a w : World} (h : Only S a w) (o : Obj) : Only S a (w.alloc o) :=
  h.trans ⟨rfl, rfl, rfl, by simp, fun _ hk _ => Below.heap_alloc _ _ _ hk⟩
theorem Only.drew {S : Nat → Prop} {a w : World} (h : Only S a w) : Only S a w.drew := ⟨h.os, h.tape, h.output, h.size, h.block⟩
theorem Only.setCell {S : Nat → Prop} {a w : World} (h : Only S a w) {p : Addr} (hp : S p.block) (u : Value) : Only S a (w.setCell p u) :=
  h.trans ⟨rfl, rfl, rfl, by simp [World.setCell], fun _ _ hn => Below.heap_setCell _ _ _ _ fun e => hn (e ▸ hp)⟩
theorem Only.grown {S : Nat → Prop} {a w w' : World} {row : Option Nat} (h : Only S a w) (hg : w.grownBy w' row) (hr : ∀ k, row = some k → S k) : Only S a w' :=
  h.trans ⟨hg.os, hg.tape, hg.output, hg.size, fun k hk hn => hg.block k hk fun e => hn (hr k e.symm)⟩

theorem only_set {a w : World} {g : Nat} (h : Only (· = g) a w) (i : Nat) (u : Value) : Only (· = g) a (w.setCell ⟨g, i, none⟩ u) := h.setCell (p := ⟨g, i, none⟩) rfl u

/-- what a slice of memory's own blocks holds, in a world that is the same there -/
theorem own_same {w w' : World} {b : Nat} {e : TypeId} {z : Nat} {v : Value} {n : Nat} {xs : List Value} (h : w.ownsRow b e z v n xs) (hs : ∀ k, v.ownBlock = some k → w'.heap[k]? = w.heap[k]?) : w'.ownsRow b e z v n xs := by
  refine ⟨h.1, ?_⟩
  rcases h.2 with h' | ⟨g, cap, cur, rfl, hb, hg, r⟩
  · exact .inl h'
  · exact .inr ⟨g, cap, cur, rfl, hb, (hs g rfl).trans hg, r⟩

/-- a disk's block: slices, steps, armed, left, off -/
def Head (w : World) (g : Nat) (vn vl vw : Value) (st : Int) (ar : Bool) (le : Int) (off : Bool) : Prop :=
  w.heap[g]? = some (.cells #[vn, vl, vw, .int .i64 st, .bool ar, .int .i64 le, .bool off] 55 (0, 0))
theorem head_free {w : World} {g i : Nat} {vn vl vw : Value} {st : Int} {ar : Bool} {le : Int} {off : Bool} (h : Head w g vn vl vw st ar le off) : w.frozen? ⟨g, i, none⟩ = false := by unfold Head at h; simp [World.frozen?, h]
theorem head0 {w : World} {g : Nat} {vn vl vw : Value} {st : Int} {ar : Bool} {le : Int} {off : Bool} (h : Head w g vn vl vw st ar le off) : w.cell? ⟨g, 0, none⟩ = some vn := by unfold Head at h; simp [World.cell?, h]
theorem head1 {w : World} {g : Nat} {vn vl vw : Value} {st : Int} {ar : Bool} {le : Int} {off : Bool} (h : Head w g vn vl vw st ar le off) : w.cell? ⟨g, 1, none⟩ = some vl := by unfold Head at h; simp [World.cell?, h]
theorem head2 {w : World} {g : Nat} {vn vl vw : Value} {st : Int} {ar : Bool} {le : Int} {off : Bool} (h : Head w g vn vl vw st ar le off) : w.cell? ⟨g, 2, none⟩ = some vw := by unfold Head at h; simp [World.cell?, h]
theorem head3 {w : World} {g : Nat} {vn vl vw : Value} {st : Int} {ar : Bool} {le : Int} {off : Bool} (h : Head w g vn vl vw st ar le off) : w.cell? ⟨g, 3, none⟩ = some (.int .i64 st) := by unfold Head at h; simp [World.cell?, h]
theorem head4 {w : World} {g : Nat} {vn vl vw : Value} {st : Int} {ar : Bool} {le : Int} {off : Bool} (h : Head w g vn vl vw st ar le off) : w.cell? ⟨g, 4, none⟩ = some (.bool ar) := by unfold Head at h; simp [World.cell?, h]
theorem head5 {w : World} {g : Nat} {vn vl vw : Value} {st : Int} {ar : Bool} {le : Int} {off : Bool} (h : Head w g vn vl vw st ar le off) : w.cell? ⟨g, 5, none⟩ = some (.int .i64 le) := by unfold Head at h; simp [World.cell?, h]
theorem head6 {w : World} {g : Nat} {vn vl vw : Value} {st : Int} {ar : Bool} {le : Int} {off : Bool} (h : Head w g vn vl vw st ar le off) : w.cell? ⟨g, 6, none⟩ = some (.bool off) := by unfold Head at h; simp [World.cell?, h]
theorem head_set2 {w : World} {g : Nat} {vn vl vw : Value} {st : Int} {ar : Bool} {le : Int} {off : Bool} (h : Head w g vn vl vw st ar le off) (u : Value) : Head (w.setCell ⟨g, 2, none⟩ u) g vn vl u st ar le off := by unfold Head at *; simp [World.setCell, Array.getElem?_modify, h]
theorem head_set3 {w : World} {g : Nat} {vn vl vw : Value} {st : Int} {ar : Bool} {le : Int} {off : Bool} (h : Head w g vn vl vw st ar le off) (u : Int) : Head (w.setCell ⟨g, 3, none⟩ (.int .i64 u)) g vn vl vw u ar le off := by unfold Head at *; simp [World.setCell, Array.getElem?_modify, h]
theorem head_set4 {w : World} {g : Nat} {vn vl vw : Value} {st : Int} {ar : Bool} {le : Int} {off : Bool} (h : Head w g vn vl vw st ar le off) (u : Bool) : Head (w.setCell ⟨g, 4, none⟩ (.bool u)) g vn vl vw st u le off := by unfold Head at *; simp [World.setCell, Array.getElem?_modify, h]
theorem head_set5 {w : World} {g : Nat} {vn vl vw : Value} {st : Int} {ar : Bool} {le : Int} {off : Bool} (h : Head w g vn vl vw st ar le off) (u : Int) : Head (w.setCell ⟨g, 5, none⟩ (.int .i64 u)) g vn vl vw st ar u off := by unfold Head at *; simp [World.setCell, Array.getElem?_modify, h]
theorem head_set6 {w : World} {g : Nat} {vn vl vw : Value} {st : Int} {ar : Bool} {le : Int} {off : Bool} (h : Head w g vn vl vw st ar le off) (u : Bool) : Head (w.setCell ⟨g, 6, none⟩ (.bool u)) g vn vl vw st ar le u := by unfold Head at *; simp [World.setCell, Array.getElem?_modify, h]
theorem head_facts {w : World} {g : Nat} {vn vl vw : Value} {st : Int} {ar : Bool} {le : Int} {off : Bool} (h : Head w g vn vl vw st ar le off) :
    w.cell? ⟨g, 3, none⟩ = some (.int .i64 st) ∧ w.cell? ⟨g, 4, none⟩ = some (.bool ar) ∧ w.cell? ⟨g, 5, none⟩ = some (.int .i64 le) ∧ w.cell? ⟨g, 6, none⟩ = some (.bool off) ∧ w.frozen? ⟨g, 3, none⟩ = false ∧ w.frozen? ⟨g, 4, none⟩ = false ∧ w.frozen? ⟨g, 5, none⟩ = false ∧ w.frozen? ⟨g, 6, none⟩ = false :=
  ⟨head3 h, head4 h, head5 h, head6 h, head_free h, head_free h, head_free h, head_free h⟩

section
variable (g : Nat) (vn vl vw : Value) (st : Int) (ar : Bool) (le : Int) (off : Bool) (w : World)
set_option maxRecDepth 20000 in
theorem off_any (hb : Hid (Head w g vn vl vw st ar le off)) :
    Calls Try.prog 14 #[.pointer (some ⟨g, 0, none⟩)] w fun e w' => e = .returned (.bool off) ∧ w' = w := by
  have hc := head6 hb.out
  go_enter Try.func14, Try.ntmps14
  go_wp2
  go_ret
  exact ⟨rfl, rfl⟩
set_option maxRecDepth 20000 in
theorem steps_any (hb : Hid (Head w g vn vl vw st ar le off)) :
    Calls Try.prog 15 #[.pointer (some ⟨g, 0, none⟩)] w fun e w' => e = .returned (.int .i64 st) ∧ w' = w := by
  have hc := head3 hb.out
  go_enter Try.func15, Try.ntmps15
  go_wp2
  go_ret
  exact ⟨rfl, rfl⟩
set_option maxRecDepth 20000 in
theorem has_any (a : Option Addr) (n : Int) (L C : Nat) (hv : vn = .slice a L C) (hb : Hid (Head w g vn vl vw st ar le off)) :
    Calls Try.prog 22 #[.pointer (some ⟨g, 0, none⟩), .int .i64 n] w fun e w' => e = .returned (.bool (decide (0 ≤ n ∧ n < (L : Int)))) ∧ w' = w := by
  subst hv
  have hc := head0 hb.out
  by_cases h0 : 0 ≤ n
  · by_cases h1 : n < (L : Int)
    · rw [decide_eq_true (And.intro h0 h1)]
      go_enter Try.func22, Try.ntmps22
      go_wp2
      go_ret
      exact ⟨rfl, rfl⟩
    · rw [decide_eq_false (fun h => h1 h.2)]
      go_enter Try.func22, Try.ntmps22
      go_wp2
      go_ret
      exact ⟨rfl, rfl⟩
  · rw [decide_eq_false (fun h => h0 h.1)]
    go_enter Try.func22, Try.ntmps22
    go_wp2
    go_ret
    exact ⟨rfl, rfl⟩
set_option maxRecDepth 20000 in
theorem arm_any (n : Int) (hb : Hid (Head w g vn vl vw st ar le off)) :
    Calls Try.prog 13 #[.pointer (some ⟨g, 0, none⟩), .int .i64 n] w fun e w' => e = .returned (.tuple #[]) ∧ Head w' g vn vl vw st true (if n < 0 then 0 else n) off ∧ Only (· = g) w w' := by
  obtain ⟨h3, h4, h5, h6, f3, f4, f5, f6⟩ := head_facts hb.out
  go_enter Try.func13, Try.ntmps13
  go_wp2
  all_goals go_end0
  all_goals exact ⟨rfl, head_set5 (head_set4 hb.out _) _, only_set (only_set (Only.refl _ w) 4 _) 5 _⟩
set_option maxRecDepth 20000 in
/-- the power goes -/
theorem change_down (hb : Hid (Head w g vn vl vw st ar le off)) (hd : Hid ((ar = true ∧ le = 0) ∨ off = true)) :
    Calls Try.prog 23 #[.pointer (some ⟨g, 0, none⟩)] w fun e w' => e = .returned (.int .i64 8) ∧ Head w' g vn vl vw st ar le true ∧ Only (· = g) w w' := by
  obtain ⟨h3, h4, h5, h6, f3, f4, f5, f6⟩ := head_facts hb.out
  by_cases h0 : ar = true ∧ le = 0
  · obtain ⟨rfl, rfl⟩ := h0
    go_enter Try.func23, Try.ntmps23
    go_wp2
    go_ret
    exact ⟨rfl, head_set6 hb.out _, only_set (Only.refl _ w) 6 _⟩
  · have ho : off = true := by rcases hd.out with h | h; exact absurd h h0; exact h
    subst ho
    cases ar with
    | false =>
      go_enter Try.func23, Try.ntmps23
      go_wp2
      go_ret
      exact ⟨rfl, hb.out, Only.refl _ w⟩
    | true =>
      have hl : ¬ le = 0 := fun x => h0 ⟨rfl, x⟩
      go_enter Try.func23, Try.ntmps23
      go_wp2
      go_ret
      exact ⟨rfl, hb.out, Only.refl _ w⟩
set_option maxRecDepth 20000 in
/-- it lasts -/
theorem change_ok (h0 : 0 ≤ le) (h1 : le ≤ 9223372036854775807) (h2 : 0 ≤ st) (h3 : st ≤ 1000000000) (hb : Hid (Head w g vn vl vw st ar le false)) (hd : ¬ (ar = true ∧ le = 0)) :
    Calls Try.prog 23 #[.pointer (some ⟨g, 0, none⟩)] w fun e w' => e = .returned (.int .i64 0) ∧ Head w' g vn vl vw (st + 1) ar (if ar = true then le - 1 else le) false ∧ Only (· = g) w w' := by
  obtain ⟨h3, h4, h5, h6, f3, f4, f5, f6⟩ := head_facts hb.out
  cases ar with
  | false =>
    go_enter Try.func23, Try.ntmps23
    go_wp2
    go_ret
    exact ⟨rfl, head_set3 hb.out _, only_set (Only.refl _ w) 3 _⟩
  | true =>
    have hl : ¬ le = 0 := fun x => hd ⟨rfl, x⟩
    go_enter Try.func23, Try.ntmps23
    go_wp2
    go_ret
    exact ⟨rfl, head_set3 (head_set5 hb.out _) _, only_set (only_set (Only.refl _ w) 5 _) 3 _⟩
end
end Go.Proofs.Ytmojieomdbfjcaa
