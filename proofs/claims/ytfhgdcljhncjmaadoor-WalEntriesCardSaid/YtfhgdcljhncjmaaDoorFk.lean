/- Contracts of one family of functions, put together: Fk. -/
import Derived.Test.YtfhgdcljhncjmaaDoorRows
import Derived.WalkKit
import Derived.ProofKit
import Derived.OpenShut
import Derived.Handy
import Derived.WalkLawsBesides
import Derived.BigQuiet
import Derived.Deep.QuietTactic
import Derived.Lib.Hide
import Derived.LoopTactic
import Derived.Outline
import Derived.Laws.OwnMore
import Derived.OwnWalk
import Derived.RegionTactic
import Derived.Deep.RegionLaw
import Derived.Deep.RegionHeld3
import Derived.ArgAppend
import Derived.Laws.BytesArg
import Derived.Laws.CopyOwn
import Derived.Lib.ConvBytes
import Derived.Test.YtfhgdcljhncjmaaDoorShelf
import Derived.Lib.AppendStr
import Derived.Lib.SmallJoins
import Derived.Deep.Grids
import Derived.Lib.Join
namespace Go.Proofs.YtfhgdcljhncjmaaDoor.Fk
open Go.ChangeShapes Go.WideShapes Go.ChangeAt Go.RowKit

/-- the world is as it was, but for the blocks of S and for new ones -/
structure Only (S : Nat → Prop) (w w' : World) : Prop where
  os : w'.os = w.os
  tape : w'.tape = w.tape
  output : w'.output = w.output
  size : w.heap.size ≤ w'.heap.size
  block : ∀ k, k < w.heap.size → ¬ S k → w'.heap[k]? = w.heap[k]?
theorem Only.refl (S : Nat → Prop) (w : World) : Only S w w := ⟨rfl, rfl, rfl, Nat.le_refl _, fun _ _ _ => rfl⟩
theorem Only.trans {S : Nat → Prop} {a b c : World} (h : Only S a b) (k : Only S b c) : Only S a c :=
  ⟨k.os.trans h.os, k.tape.trans h.tape, k.output.trans h.output, Nat.le_trans h.size k.size, fun i hi hs => (k.block i (Nat.lt_of_lt_of_le hi h.size) hs).trans (h.block i hi hs)⟩
theorem Only.mono {S S' : Nat → Prop} {w w' : World} (h : Only S w w') (hs : ∀ k, k < w.heap.size → S k → S' k) : Only S' w w' := ⟨h.os, h.tape, h.output, h.size, fun k hk hn => h.block k hk fun x => hn (hs k hk x)⟩
theorem Only.below {S : Nat → Prop} {w w' : World} {B : Nat} (h : Only S w w') (hs : ∀ k, S k → B ≤ k) (hB : B ≤ w.heap.size) : Below B w w' := ⟨h.os, h.tape, h.output, h.size, fun k hk => h.block k (by omega) fun x => by have := hs k x; omega⟩
theorem Only.of_below {S : Nat → Prop} {w w' : World} (h : Below w.heap.size w w') : Only S w w' := ⟨h.os, h.tape, h.output, h.size, fun k hk _ => h.block k hk⟩
theorem Only.alloc {S : Nat → Prop} {a w : World} (h : Only S a w) (o : Obj) : Only S a (w.alloc o) :=
  h.trans ⟨rfl, rfl, rfl, by simp, fun _ hk _ => Below.heap_alloc _ _ _ hk⟩
theorem Only.drew {S : Nat → Prop} {a w : World} (h : Only S a w) : Only S a w.drew := ⟨h.os, h.tape, h.output, h.size, h.block⟩
theorem Only.setCell {S : Nat → Prop} {a w : World} (h : Only S a w) {p : Addr} (hp : S p.block) (u : Value) : Only S a (w.setCell p u) :=
  h.trans ⟨rfl, rfl, rfl, by simp [World.setCell], fun _ _ hn => Below.heap_setCell _ _ _ _ fun e => hn (e ▸ hp)⟩
theorem Only.grown {S : Nat → Prop} {a w w' : World} {row : Option Nat} (h : Only S a w) (hg : w.grownBy w' row) (hr : ∀ k, row = some k → S k) : Only S a w' :=
  h.trans ⟨hg.os, hg.tape, hg.output, hg.size, fun k hk hn => hg.block k hk fun e => hn (hr k e.symm)⟩

theorem only_set {a w : World} {g : Nat} (h : Only (· = g) a w) (i : Nat) (u : Value) : Only (· = g) a (w.setCell ⟨g, i, none⟩ u) := h.setCell (p := ⟨g, i, none⟩) rfl u

/-- what a slice of memory's own blocks holds, in a world that is the same there -/
theorem own_same {w w' : World} {b : Nat} {e : TypeId} {z : Nat} {v : Value} {n : Nat} {xs : List Value} (h : w.ownsRow b e z v n xs) (hs : ∀ k, v.ownBlock = some k → w'.heap[k]? = w.heap[k]?) : w'.ownsRow b e z v n xs := by
  refine ⟨h.1, ?_⟩
  rcases h.2 with h' | ⟨g, cap, cur, rfl, hb, hg, r⟩
  · exact .inl h'
  · exact .inr ⟨g, cap, cur, rfl, hb, (hs g rfl).trans hg, r⟩

/-- a disk's block: slices, steps, armed, left, off -/
def Head (w : World) (g : Nat) (vn vl vw : Value) (st : Int) (ar : Bool) (le : Int) (off : Bool) : Prop :=
  w.heap[g]? = some (.cells #[vn, vl, vw, .int .i64 st, .bool ar, .int .i64 le, .bool off] 92 (0, 0))
theorem head_free {w : World} {g i : Nat} {vn vl vw : Value} {st : Int} {ar : Bool} {le : Int} {off : Bool} (h : Head w g vn vl vw st ar le off) : w.frozen? ⟨g, i, none⟩ = false := by unfold Head at h; simp [World.frozen?, h]
theorem head0 {w : World} {g : Nat} {vn vl vw : Value} {st : Int} {ar : Bool} {le : Int} {off : Bool} (h : Head w g vn vl vw st ar le off) : w.cell? ⟨g, 0, none⟩ = some vn := by unfold Head at h; simp [World.cell?, h]
theorem head1 {w : World} {g : Nat} {vn vl vw : Value} {st : Int} {ar : Bool} {le : Int} {off : Bool} (h : Head w g vn vl vw st ar le off) : w.cell? ⟨g, 1, none⟩ = some vl := by unfold Head at h; simp [World.cell?, h]
theorem head2 {w : World} {g : Nat} {vn vl vw : Value} {st : Int} {ar : Bool} {le : Int} {off : Bool} (h : Head w g vn vl vw st ar le off) : w.cell? ⟨g, 2, none⟩ = some vw := by unfold Head at h; simp [World.cell?, h]
theorem head3 {w : World} {g : Nat} {vn vl vw : Value} {st : Int} {ar : Bool} {le : Int} {off : Bool} (h : Head w g vn vl vw st ar le off) : w.cell? ⟨g, 3, none⟩ = some (.int .i64 st) := by unfold Head at h; simp [World.cell?, h]
theorem head4 {w : World} {g : Nat} {vn vl vw : Value} {st : Int} {ar : Bool} {le : Int} {off : Bool} (h : Head w g vn vl vw st ar le off) : w.cell? ⟨g, 4, none⟩ = some (.bool ar) := by unfold Head at h; simp [World.cell?, h]
theorem head5 {w : World} {g : Nat} {vn vl vw : Value} {st : Int} {ar : Bool} {le : Int} {off : Bool} (h : Head w g vn vl vw st ar le off) : w.cell? ⟨g, 5, none⟩ = some (.int .i64 le) := by unfold Head at h; simp [World.cell?, h]
theorem head6 {w : World} {g : Nat} {vn vl vw : Value} {st : Int} {ar : Bool} {le : Int} {off : Bool} (h : Head w g vn vl vw st ar le off) : w.cell? ⟨g, 6, none⟩ = some (.bool off) := by unfold Head at h; simp [World.cell?, h]
theorem head_set2 {w : World} {g : Nat} {vn vl vw : Value} {st : Int} {ar : Bool} {le : Int} {off : Bool} (h : Head w g vn vl vw st ar le off) (u : Value) : Head (w.setCell ⟨g, 2, none⟩ u) g vn vl u st ar le off := by unfold Head at *; simp [World.setCell, Array.getElem?_modify, h]
theorem head_set3 {w : World} {g : Nat} {vn vl vw : Value} {st : Int} {ar : Bool} {le : Int} {off : Bool} (h : Head w g vn vl vw st ar le off) (u : Int) : Head (w.setCell ⟨g, 3, none⟩ (.int .i64 u)) g vn vl vw u ar le off := by unfold Head at *; simp [World.setCell, Array.getElem?_modify, h]
theorem head_set4 {w : World} {g : Nat} {vn vl vw : Value} {st : Int} {ar : Bool} {le : Int} {off : Bool} (h : Head w g vn vl vw st ar le off) (u : Bool) : Head (w.setCell ⟨g, 4, none⟩ (.bool u)) g vn vl vw st u le off := by unfold Head at *; simp [World.setCell, Array.getElem?_modify, h]
theorem head_set5 {w : World} {g : Nat} {vn vl vw : Value} {st : Int} {ar : Bool} {le : Int} {off : Bool} (h : Head w g vn vl vw st ar le off) (u : Int) : Head (w.setCell ⟨g, 5, none⟩ (.int .i64 u)) g vn vl vw st ar u off := by unfold Head at *; simp [World.setCell, Array.getElem?_modify, h]
theorem head_set6 {w : World} {g : Nat} {vn vl vw : Value} {st : Int} {ar : Bool} {le : Int} {off : Bool} (h : Head w g vn vl vw st ar le off) (u : Bool) : Head (w.setCell ⟨g, 6, none⟩ (.bool u)) g vn vl vw st ar le u := by unfold Head at *; simp [World.setCell, Array.getElem?_modify, h]
theorem head_facts {w : World} {g : Nat} {vn vl vw : Value} {st : Int} {ar : Bool} {le : Int} {off : Bool} (h : Head w g vn vl vw st ar le off) :
    w.cell? ⟨g, 3, none⟩ = some (.int .i64 st) ∧ w.cell? ⟨g, 4, none⟩ = some (.bool ar) ∧ w.cell? ⟨g, 5, none⟩ = some (.int .i64 le) ∧ w.cell? ⟨g, 6, none⟩ = some (.bool off) ∧ w.frozen? ⟨g, 3, none⟩ = false ∧ w.frozen? ⟨g, 4, none⟩ = false ∧ w.frozen? ⟨g, 5, none⟩ = false ∧ w.frozen? ⟨g, 6, none⟩ = false :=
  ⟨head3 h, head4 h, head5 h, head6 h, head_free h, head_free h, head_free h, head_free h⟩

section
variable (g : Nat) (vn vl vw : Value) (st : Int) (ar : Bool) (le : Int) (off : Bool) (w : World)
set_option maxRecDepth 20000 in
theorem has_any (a : Option Addr) (n : Int) (L C : Nat) (hv : vn = .slice a L C) (hb : Hid (Head w g vn vl vw st ar le off)) :
    Calls Tryd.prog 52 #[.pointer (some ⟨g, 0, none⟩), .int .i64 n] w fun e w' => e = .returned (.bool (decide (0 ≤ n ∧ n < (L : Int)))) ∧ w' = w := by
  subst hv
  have hc := head0 hb.out
  by_cases h0 : 0 ≤ n
  · by_cases h1 : n < (L : Int)
    · rw [decide_eq_true (And.intro h0 h1)]
      go_enter Tryd.func52, Tryd.ntmps52
      go_wp2
      go_ret
      exact ⟨rfl, rfl⟩
    · rw [decide_eq_false (fun h => h1 h.2)]
      go_enter Tryd.func52, Tryd.ntmps52
      go_wp2
      go_ret
      exact ⟨rfl, rfl⟩
  · rw [decide_eq_false (fun h => h0 h.1)]
    go_enter Tryd.func52, Tryd.ntmps52
    go_wp2
    go_ret
    exact ⟨rfl, rfl⟩
set_option maxRecDepth 20000 in
theorem arm_any (n : Int) (hb : Hid (Head w g vn vl vw st ar le off)) :
    Calls Tryd.prog 29 #[.pointer (some ⟨g, 0, none⟩), .int .i64 n] w fun e w' => e = .returned (.tuple #[]) ∧ Head w' g vn vl vw st true (if n < 0 then 0 else n) off ∧ Only (· = g) w w' := by
  have emx : (if n < 0 then (0 : Int) else n) = max n 0 := by split <;> omega
  rw [emx]
  clear emx
  obtain ⟨h3, h4, h5, h6, f3, f4, f5, f6⟩ := head_facts hb.out
  go_enter Tryd.func29, Tryd.ntmps29
  go_wp2
  all_goals go_end0
  all_goals exact ⟨rfl, head_set5 (head_set4 hb.out _) _, only_set (only_set (Only.refl _ w) 4 _) 5 _⟩
set_option maxRecDepth 20000 in
/-- the power goes -/
theorem change_down (hb : Hid (Head w g vn vl vw st ar le off)) (hd : Hid ((ar = true ∧ le = 0) ∨ off = true)) :
    Calls Tryd.prog 53 #[.pointer (some ⟨g, 0, none⟩)] w fun e w' => e = .returned (.int .i64 8) ∧ Head w' g vn vl vw st ar le true ∧ Only (· = g) w w' := by
  obtain ⟨h3, h4, h5, h6, f3, f4, f5, f6⟩ := head_facts hb.out
  by_cases h0 : ar = true ∧ le = 0
  · obtain ⟨rfl, rfl⟩ := h0
    go_enter Tryd.func53, Tryd.ntmps53
    go_wp2
    go_ret
    exact ⟨rfl, head_set6 hb.out _, only_set (Only.refl _ w) 6 _⟩
  · have ho : off = true := by rcases hd.out with h | h; exact absurd h h0; exact h
    subst ho
    cases ar with
    | false =>
      go_enter Tryd.func53, Tryd.ntmps53
      go_wp2
      go_ret
      exact ⟨rfl, hb.out, Only.refl _ w⟩
    | true =>
      have hl : ¬ le = 0 := fun x => h0 ⟨rfl, x⟩
      go_enter Tryd.func53, Tryd.ntmps53
      go_wp2
      go_ret
      exact ⟨rfl, hb.out, Only.refl _ w⟩
set_option maxRecDepth 20000 in
/-- it lasts -/
theorem change_ok (h0 : 0 ≤ le) (h1 : le ≤ 9223372036854775807) (h2 : 0 ≤ st) (h3 : st ≤ 1000000000) (hb : Hid (Head w g vn vl vw st ar le false)) (hd : ¬ (ar = true ∧ le = 0)) :
    Calls Tryd.prog 53 #[.pointer (some ⟨g, 0, none⟩)] w fun e w' => e = .returned (.int .i64 0) ∧ Head w' g vn vl vw (st + 1) ar (if ar = true then le - 1 else le) false ∧ Only (· = g) w w' := by
  obtain ⟨h3, h4, h5, h6, f3, f4, f5, f6⟩ := head_facts hb.out
  cases ar with
  | false =>
    go_enter Tryd.func53, Tryd.ntmps53
    go_wp2
    go_ret
    exact ⟨rfl, head_set3 hb.out _, only_set (Only.refl _ w) 3 _⟩
  | true =>
    have hl : ¬ le = 0 := fun x => hd ⟨rfl, x⟩
    go_enter Tryd.func53, Tryd.ntmps53
    go_wp2
    go_ret
    exact ⟨rfl, head_set3 (head_set5 hb.out _) _, only_set (only_set (Only.refl _ w) 5 _) 3 _⟩
end

theorem own_base {w : World} {b b' : Nat} {e : TypeId} {z : Nat} {v : Value} {n : Nat} {xs : List Value} (h : w.ownsRow b' e z v n xs) (hb : b ≤ b') : w.ownsRow b e z v n xs := by
  refine ⟨h.1, ?_⟩
  rcases h.2 with h' | ⟨g, cap, cur, hv, hg, r⟩
  · exact .inl h'
  · exact .inr ⟨g, cap, cur, hv, Nat.le_trans hb hg, r⟩
/-- an append, whether there is room or not: the row stays where it is, or is a new one -/
theorem run_append_place {P : Program} (w : World) (t ty e : TypeId) (i : TypeInfo) (z : Value) (size bytes : Nat) (ht : P.underlying t = some (.slice e)) (hi : P.info? e = some i) (hz : i.zero = some z)
    (hsize : i.size = size) (hby : i.bytes = bytes) (hzs : z.cells.size = size) (hsz : 0 < size)
    (v : Value) (n : Nat) (xs : List Value) (hown : w.ownsRow 0 e size v n xs)
    (ad : Addr) (m c : Nat) (news : List Value) (hl : news.length = m * size) (hnews : ∀ j u, news[j]? = some u → w.cell? (ad.add j) = some u) (h1 : ∀ u ∈ news, u.oneCell' = true)
    (h63 : n + m ≤ maxLen) (hbytes : (n + m) * bytes ≤ 140737488355328) :
    ∃ v' w', (Builtin.append_ #[t, t] ty #[v, .slice (some ad) m c]).run P w = .ok v' w' ∧ w'.ownsRow 0 e size v' (n + m) (xs ++ news) ∧ w.grownBy w' v.ownBlock ∧ (v'.ownBlock = v.ownBlock ∨ w'.ownsRow w.heap.size e size v' (n + m) (xs ++ news)) := by
  rcases hown.2 with ⟨hv, hn⟩ | ⟨g, cap, cur, hv, hb, hg, hnc, r⟩
  · subst hv
    subst hn
    have hx : xs = [] := List.eq_nil_of_length_eq_zero (by simpa using hown.1)
    subst hx
    obtain ⟨v', w', hr, a1, a2, _⟩ := run_append_own (P := P) w w.heap.size t ty e i z size bytes ht hi hz hsize hby hzs hsz (.slice none 0 0) 0 [] (World.ownsRow_nil w _ e size) ad m c news hl hnews h1 h63 hbytes (Nat.le_refl _)
    exact ⟨v', w', hr, own_base a1 (Nat.zero_le _), a2, .inr a1⟩
  · subst hv
    by_cases hroom : n + m ≤ cap
    · obtain ⟨w', hr, a1, a2⟩ := run_append_fits (P := P) w 0 t ty e i size ht hi hsize g n cap xs hown ad m c news hl hnews h1 hroom
      exact ⟨_, w', hr, a1, a2, .inl rfl⟩
    · obtain ⟨v', w', hr, a1, a2⟩ := run_append_arg_grows (P := P) w t ty e i z size bytes ht hi hz hsize hby hzs hsz ⟨g, 0, none⟩ n cap xs hown.1 (hown.cells (g := g) rfl) ad m c news hl hnews (by omega) h63 hbytes
      exact ⟨v', w', hr, own_base a1 (Nat.zero_le _), ⟨a2.os, a2.tape, a2.output, a2.size, fun k hk _ => a2.block k hk (fun h => by cases h)⟩, .inr a1⟩

theorem step_append_place {P : Program} {ops : Array Oper} {o : Oper} {a : Act} {w : World} {K : Act → World → Prop} {Q : Exit → Act → World → Prop} {E : Prop}
    (hgu : o.guard = none) (s x : Operand) (t : TypeId) (ho : o.op = Op.call { callee := Callee.builtin Builtin.append, args := #[s, x], argTypes := #[t, t] })
    (e : TypeId) (i : TypeInfo) (z : Value) (size bytes : Nat) (ht : P.underlying t = some (.slice e)) (hi : P.info? e = some i) (hz : i.zero = some z)
    (hsize : i.size = size) (hby : i.bytes = bytes) (hzs : z.cells.size = size) (hsz : 0 < size)
    (v : Value) (n : Nat) (xs : List Value) (hs : a.eval s = v) (hown : w.ownsRow 0 e size v n xs)
    (ad : Addr) (m c : Nat) (news : List Value) (hx : a.eval x = .slice (some ad) m c) (hl : news.length = m * size) (hnews : ∀ j u, news[j]? = some u → w.cell? (ad.add j) = some u) (h1 : ∀ u ∈ news, u.oneCell' = true)
    (h63 : n + m ≤ maxLen) (hbytes : (n + m) * bytes ≤ 140737488355328)
    (hK : ∀ v' w', w'.ownsRow 0 e size v' (n + m) (xs ++ news) → w.grownBy w' v.ownBlock → (v'.ownBlock = v.ownBlock ∨ w'.ownsRow w.heap.size e size v' (n + m) (xs ++ news)) → K (a.put o.dst v') w') :
    if Region.wanted o (yielded ops a.tmps) = true then Oper.wp P o a w K Q else E := by
  have hw : Region.wanted o (yielded ops a.tmps) = true := by simp [Region.wanted, hgu]
  rw [if_pos hw]
  obtain ⟨v', w', hrun, r1, r2, r3⟩ := run_append_place (P := P) w t o.type e i z size bytes ht hi hz hsize hby hzs hsz v n xs hown ad m c news hl hnews h1 h63 hbytes
  unfold Oper.wp
  simp [execOp, ho, resolve, invoke, builtin, hs, hx, hrun, Result.andThen]
  exact hK v' w' r1 r2 r3

theorem info_write : (Tryd.prog.info? 95).map (fun i => (i.zero, i.size, i.bytes)) = some (some (.agg #[.int .i64 0, .string ⟨#[]⟩]), 2, 24) := by kernel_rfl
theorem new_two (w : World) (a b : Value) (t : TypeId) : ∀ (j : Nat) (u : Value), [a, b][j]? = some u → (w.alloc (.cells #[a, b] t)).cell? ((⟨w.heap.size, 0, none⟩ : Addr).add j) = some u := by
  intro j u hj
  rw [Addr.add_lit, World.cell?_alloc_mark]
  simpa using hj
theorem new_two_drew (w : World) (a b : Value) (t : TypeId) : ∀ (j : Nat) (u : Value), [a, b][j]? = some u → (w.alloc (.cells #[a, b] t)).drew.cell? ((⟨w.heap.size, 0, none⟩ : Addr).add j) = some u := new_two w a b t
theorem own_drew {w : World} {b : Nat} {e : TypeId} {z : Nat} {v : Value} {n : Nat} {xs : List Value} (h : w.ownsRow b e z v n xs) : w.drew.ownsRow b e z v n xs := h
theorem own_shape {w : World} {b : Nat} {e : TypeId} {z : Nat} {v : Value} {n : Nat} {xs : List Value} (h : w.ownsRow b e z v n xs) (hn : 0 < n) : ∃ g cap, v = .slice (some ⟨g, 0, none⟩) n cap := by
  rcases h.2 with ⟨_, h0⟩ | ⟨g, cap, cur, hv, _⟩
  · omega
  · exact ⟨g, cap, hv⟩
theorem own_type {w : World} {b : Nat} {e : TypeId} {z g n c : Nat} {xs : List Value} (h : w.ownsRow b e z (.slice (some ⟨g, 0, none⟩) n c) n xs) : ∃ cur, w.heap[g]? = some (.cells cur e (0, 0)) := by
  rcases h.2 with ⟨h0, _⟩ | ⟨g', cap, cur, hv, _, hg, _⟩
  · cases h0
  · simp only [Value.slice.injEq, Option.some.injEq, Addr.mk.injEq, and_true, true_and] at hv
    obtain ⟨rfl, rfl⟩ := hv
    exact ⟨cur, hg⟩
theorem one_two {n : Int} {s : ByteArray} : ∀ u ∈ [Value.int IntKind.i64 n, Value.string s], u.oneCell' = true := by
  intro u hu
  simp at hu
  rcases hu with rfl | rfl <;> rfl
theorem head_lt {w : World} {g : Nat} {vn vl vw : Value} {st : Int} {ar : Bool} {le : Int} {off : Bool} (h : Head w g vn vl vw st ar le off) : g < w.heap.size := by
  unfold Head at h
  exact (Array.getElem?_eq_some_iff.1 h).1
theorem head_only {S : Nat → Prop} {w w' : World} {g : Nat} {vn vl vw : Value} {st : Int} {ar : Bool} {le : Int} {off : Bool} (h : Head w g vn vl vw st ar le off) (ho : Only S w w') (hs : ¬ S g) : Head w' g vn vl vw st ar le off := by
  have hl := head_lt h
  unfold Head at *
  rw [ho.block g hl hs]; exact h
theorem own_only {S : Nat → Prop} {w w' : World} {b : Nat} {e : TypeId} {z : Nat} {v : Value} {n : Nat} {xs : List Value} (h : w.ownsRow b e z v n xs) (ho : Only S w w') (hs : ∀ k, v.ownBlock = some k → ¬ S k) : w'.ownsRow b e z v n xs :=
  own_same h fun k hk => ho.block k (h.lt k hk).2 (hs k hk)

/-- behind the append -/
structure Mid (w2 w3 : World) (g : Nat) (vn vl vw : Value) (st : Int) (ar : Bool) (le : Int) (off : Bool) (m : Nat) (xs news : List Value) (gw cw : Nat) : Prop where
  head : Head w3 g vn vl vw st ar le off
  only : Only (fun k => vw.ownBlock = some k) w2 w3
  own : w3.ownsRow 0 95 2 (.slice (some ⟨gw, 0, none⟩) (m + 1) cw) (m + 1) (xs ++ news)
  place : vw.ownBlock = some gw ∨ w2.heap.size ≤ gw
theorem mid_of {w2 W w3 : World} {g : Nat} {vn vl vw : Value} {st : Int} {ar : Bool} {le : Int} {off : Bool} {m gw cw : Nat} {xs news : List Value} (hb : Head w2 g vn vl vw st ar le off) (hW : Only (fun _ => False) w2 W)
    (ho : w3.ownsRow 0 95 2 (.slice (some ⟨gw, 0, none⟩) (m + 1) cw) (m + 1) (xs ++ news)) (hg : W.grownBy w3 vw.ownBlock) (hn : vw.ownBlock ≠ some g)
    (hp : (Value.slice (some ⟨gw, 0, none⟩) (m + 1) cw).ownBlock = vw.ownBlock ∨ w3.ownsRow W.heap.size 95 2 (.slice (some ⟨gw, 0, none⟩) (m + 1) cw) (m + 1) (xs ++ news)) :
    Mid w2 w3 g vn vl vw st ar le off m xs news gw cw := by
  have hon : Only (fun k => vw.ownBlock = some k) w2 w3 := (hW.mono fun _ _ h => h.elim).grown hg fun k e => e
  refine ⟨head_only hb hon hn, hon, ho, ?_⟩
  rcases hp with h | h
  · exact .inl h.symm
  · exact .inr (Nat.le_trans hW.size ((h.lt gw rfl).1))

/-- what Write leaves -/
def WOut (w w' : World) (g : Nat) (vn vl vw : Value) (st : Int) (ar : Bool) (le : Int) (m : Nat) (ws : List Value) (gn L C : Nat) (ys : List Value) : Prop :=
  ∃ gw cw, Head w' g vn vl (.slice (some ⟨gw, 0, none⟩) (m + 1) cw) st ar le false ∧ w'.ownsRow 0 95 2 (.slice (some ⟨gw, 0, none⟩) (m + 1) cw) (m + 1) ws ∧
    w'.ownsRow 0 9 1 (.slice (some ⟨gn, 0, none⟩) L C) L ys ∧ (vw.ownBlock = some gw ∨ w.heap.size ≤ gw) ∧ gw ≠ g ∧ gw ≠ gn ∧ Only (fun k => k = g ∨ vw.ownBlock = some k ∨ k = gn) w w'
theorem wout_set {w w4 : World} {g : Nat} {vn vl vw : Value} {st : Int} {ar : Bool} {le : Int} {m : Nat} {ws : List Value} {gn L C gw cw : Nat} {ys : List Value} (hg : gn ≠ g) (n : Nat) (u : Value)
    (h : Head w4 g vn vl (.slice (some ⟨gw, 0, none⟩) (m + 1) cw) st ar le false ∧ w4.ownsRow 0 95 2 (.slice (some ⟨gw, 0, none⟩) (m + 1) cw) (m + 1) ws ∧
      w4.ownsRow 0 9 1 (.slice (some ⟨gn, 0, none⟩) L C) L ys ∧ (vw.ownBlock = some gw ∨ w.heap.size ≤ gw) ∧ gw ≠ g ∧ gw ≠ gn ∧ Only (fun k => k = g ∨ vw.ownBlock = some k ∨ k = gn) w w4) :
    WOut w (w4.setCell ⟨gn, n, none⟩ u) g vn vl vw st ar le m ws gn L C (ys.set n u) := by
  obtain ⟨a, b, c, d, e, f, o⟩ := h
  have hs : Only (· = gn) w4 (w4.setCell ⟨gn, n, none⟩ u) := only_set (Only.refl _ w4) n u
  exact ⟨gw, cw, head_only a hs fun x => hg x.symm, own_only b hs fun k hk x => f (by cases hk; exact x), (World.ownsRow.stored c n u).1, d, e, f, o.trans (hs.mono fun _ _ x => .inr (.inr x))⟩

theorem wout_drew {w w4 : World} {g : Nat} {vn vl vw : Value} {st : Int} {ar : Bool} {le : Int} {m : Nat} {ws : List Value} {gn L C : Nat} {ys : List Value} (h : WOut w w4 g vn vl vw st ar le m ws gn L C ys) : WOut w w4.drew g vn vl vw st ar le m ws gn L C ys := by
  obtain ⟨gw, cw, a, b, c, d, e, f, o⟩ := h
  exact ⟨gw, cw, a, b, c, d, e, f, o.drew⟩

section
variable (g : Nat) (vn vl vw : Value) (st : Int) (ar : Bool) (le : Int) (off : Bool) (w : World)
set_option maxRecDepth 20000 in
theorem write_ok (le' : Int) (hle : le' = if ar = true then le - 1 else le) (m : Nat) (xs : List Value) (hm : m ≤ 1000000) (hown : Hid (w.ownsRow 0 95 2 vw m xs)) (hneg : Hid (vw.ownBlock ≠ some g)) (gn L C : Nat) (ys : List Value) (n : Nat) (hn : n < L) (sp : Option Addr) (cap : Nat) (s : ByteArray) (h0 : 0 ≤ le) (h1 : le ≤ 9223372036854775807) (h2 : 0 ≤ st) (h3 : st ≤ 1000000000)
    (hv : vn = .slice (some ⟨gn, 0, none⟩) L C) (hN : Hid (w.ownsRow 0 9 1 (.slice (some ⟨gn, 0, none⟩) L C) L ys)) (hgn : Hid (gn ≠ g ∧ vw.ownBlock ≠ some gn))
    (hb : Hid (Head w g vn vl vw st ar le false)) (hd : ¬ (ar = true ∧ le = 0)) (hcv : Hid (∀ W, Only (· = g) w W → (convert 34 9 (.slice sp 512 cap)).run Tryd.prog W = .ok (.string s) W)) :
    Calls Tryd.prog 27 #[.pointer (some ⟨g, 0, none⟩), .int .i64 (n : Int), .slice sp 512 cap] w fun e w' => e = .returned (.int .i64 0) ∧
      WOut w w' g vn vl vw (st + 1) ar le' m (xs ++ [Value.int IntKind.i64 (n : Int), Value.string s]) gn L C (ys.set n (.string s)) := by
  have HH := Lib.hid (has_any g vn vl vw st ar le false w (some ⟨gn, 0, none⟩) n L C hv hb)
  have HC0 := change_ok g vn vl vw st ar le w h0 h1 h2 h3 hb hd
  rw [← hle] at HC0
  clear hle
  have HC := Lib.hid HC0
  clear HC0
  subst hv
  have hc6 := head6 hb.out
  have hg0 : decide ((0 : Int) ≤ (n : Int) ∧ (n : Int) < (L : Int)) = true := decide_eq_true (by omega)
  rw [hg0] at HH
  go_enter Tryd.func27, Tryd.ntmps27
  go_wp2_with fail
  refine HH.out.mono ?_
  rintro e w' ⟨rfl, hww⟩
  have hww := hww.symm
  subst hww
  go_wp2_with fail
  refine HC.out.mono ?_
  rintro e w1 ⟨rfl, hb1', ho1'⟩
  have hcv1 := hcv.out w1 ho1'
  have hb1 := Lib.hid hb1'
  have ho1 := Lib.hid ho1'
  clear hb1' ho1'
  go_wp2_with fail
  have hk1 : g < w1.heap.size := head_lt hb1.out
  have hown1 : w1.ownsRow 0 95 2 vw m xs := own_only hown.out ho1.out fun k hk e => hneg.out (by rw [hk, e])
  have hN1 : w1.ownsRow 0 9 1 (.slice (some ⟨gn, 0, none⟩) L C) L ys := own_only hN.out ho1.out fun k hk e => hgn.out.1 (by cases hk; exact e)
  have hvk : vw.ownBlock ≠ some w1.heap.size := fun e => by have := (hown1.lt _ e).2; omega
  have hown2 := Lib.hid (hown1.alloc (Obj.cells #[Value.int IntKind.i64 (n : Int), Value.string s] 95))
  have hN2 := Lib.hid (hN1.alloc (Obj.cells #[Value.int IntKind.i64 (n : Int), Value.string s] 95))
  clear hown1 hN1
  have ho2 : Only (· = g) w (w1.alloc (Obj.cells #[Value.int IntKind.i64 (n : Int), Value.string s] 95)) := ho1.out.alloc _
  have hb2 : Head (w1.alloc (Obj.cells #[Value.int IntKind.i64 (n : Int), Value.string s] 95)) g (.slice (some ⟨gn, 0, none⟩) L C) vl vw (st + 1) ar le' false := head_only hb1.out ((Only.refl (fun _ => False) _).alloc _) fun h => h
  have hr2 : (w1.alloc (Obj.cells #[Value.int IntKind.i64 (n : Int), Value.string s] 95)).heap[w1.heap.size]? = some (.cells #[Value.int IntKind.i64 (n : Int), Value.string s] 95 (0, 0)) := Array.getElem?_push_size
  have hlt2 : w1.heap.size < (w1.alloc (Obj.cells #[Value.int IntKind.i64 (n : Int), Value.string s] 95)).heap.size := by simp
  generalize (w1.alloc (Obj.cells #[Value.int IntKind.i64 (n : Int), Value.string s] 95)) = w2 at *
  generalize w1.heap.size = k8 at *
  have hc2 := head2 hb2
  have hf2 := head_free (i := 2) hb2
  have c80 : w2.cell? ⟨k8, 0, none⟩ = some (Value.int IntKind.i64 (n : Int)) := by simp [World.cell?, hr2]
  have c81 : w2.cell? ⟨k8, 1, none⟩ = some (Value.string s) := by simp [World.cell?, hr2]
  have hc2a : (w2.alloc (Obj.cells #[Value.int IntKind.i64 (n : Int), Value.string s] 95)).drew.cell? ⟨g, 2, none⟩ = some vw := (World.cell?_alloc_old w2 _ _ (Nat.ne_of_lt (World.block_lt_of_cell? w2 _ hc2))).trans hc2
  have hb2' := Lib.hid hb2
  have hr2' := Lib.hid (fun _ : True => hr2)
  have ho2' := Lib.hid ho2
  have hside := Lib.hid (And.intro hvk (And.intro hk1 hlt2))
  clear hb2 hr2 ho2 hcv1 ho1 hb1 hvk hk1 hlt2
  obtain ⟨i0, hi, hz0, hz1, hz2⟩ := info_parts info_write
  go_region_law (refine step_append_place rfl (.tmp 40) (.tmp 42) 90 rfl 95 i0 _ 2 24 Tryd.underlying90 hi hz0 hz1 hz2 rfl (by decide) vw m xs (by simp [Act.eval]) (by first | exact World.ownsRow.alloc hown2.out _ | exact own_drew (World.ownsRow.alloc hown2.out _)) ⟨w2.heap.size, 0, none⟩ 1 1 [Value.int IntKind.i64 (n : Int), Value.string s] (by simp [Act.eval]) rfl (by first | exact new_two _ _ _ _ | exact new_two_drew _ _ _ _) one_two (by unfold maxLen; omega) (by omega) ?_; intro v' w3 hown3 hgrow3 hp3; obtain ⟨gw, cw, hv'⟩ := own_shape hown3 (by omega); subst hv'; have hall := mid_of hb2'.out (by first | exact ((Only.refl _ w2).drew).alloc _ | exact ((Only.refl _ w2).alloc _).drew) hown3 hgrow3 hneg.out hp3; have hc3 := head2 hall.head; have hf3 := head_free (i := 2) hall.head; have hall' := Lib.hid hall; clear hall hown3 hgrow3 hp3)
  all_goals (
    have hM := hall'.out
    have hgw0 : gw ≠ g := fun e => by
      obtain ⟨cur, hq⟩ := own_type hM.own
      have h := hM.head
      unfold Head at h
      rw [e, h] at hq
      exact absurd hq (by simp)
    have hN3 := own_only hN2.out hM.only fun k hk e => hgn.out.2 (by cases hk; exact e)
    have hgw1 : gw ≠ gn := fun e => by
      obtain ⟨cur, hq⟩ := own_type hM.own
      obtain ⟨cur', hq'⟩ := own_type hN3
      rw [e, hq'] at hq
      exact absurd hq (by simp)
    have hh4 := head_set2 hM.head (.slice (some ⟨gw, 0, none⟩) (m + 1) cw)
    have hO4 : Only (fun k => k = g ∨ vw.ownBlock = some k ∨ k = gn) w (w3.setCell ⟨g, 2, none⟩ (.slice (some ⟨gw, 0, none⟩) (m + 1) cw)) :=
      Only.setCell ((ho2'.out.mono fun _ _ h => .inl h).trans (hM.only.mono fun _ _ h => .inr (.inl h))) (.inl rfl) _
    have hown4 := Only.setCell (S := (· = g)) (Only.refl _ w3) (p := ⟨g, 2, none⟩) rfl (.slice (some ⟨gw, 0, none⟩) (m + 1) cw)
    have hW4 := own_only hM.own hown4 fun k hk e => hgw0 (by cases hk; exact e)
    have hN4 := own_only hN3 hown4 fun k hk e => hgn.out.1 (by cases hk; exact e)
    have hk84 : (w3.setCell ⟨g, 2, none⟩ (.slice (some ⟨gw, 0, none⟩) (m + 1) cw)).heap[k8]? = some (.cells #[Value.int IntKind.i64 (n : Int), Value.string s] 95 (0, 0)) :=
      (hown4.block k8 (Nat.lt_of_lt_of_le hside.out.2.2 hM.only.size) (fun e => by have := hside.out.2.1; omega)).trans ((hM.only.block k8 hside.out.2.2 hside.out.1).trans (hr2'.out trivial))
    have hpl : vw.ownBlock = some gw ∨ w.heap.size ≤ gw := hM.place.imp id fun h => Nat.le_trans ho2'.out.size h
    clear hM hall' hc3 hf3 hN3 hown4
    generalize (w3.setCell ⟨g, 2, none⟩ (.slice (some ⟨gw, 0, none⟩) (m + 1) cw)) = w4 at *
    have c40 := head0 hh4
    have c81' : w4.cell? ⟨k8, 1, none⟩ = some (Value.string s) := by simp [World.cell?, hk84]
    have hlen : ys.length = L := by have := hN4.1; omega
    have c4n : w4.cell? ⟨gn, n, none⟩ = some ys[n] := by rw [World.ownsRow.cellAt hN4 n (by omega)]; exact List.getElem?_eq_getElem _
    have f4n := World.ownsRow.frozenAt hN4 n
    have HA := Lib.hid (And.intro hh4 (And.intro hW4 (And.intro hN4 (And.intro hpl (And.intro hgw0 (And.intro hgw1 hO4))))))
    clear hh4 hW4 hN4 hpl hgw0 hgw1 hO4 hk84
    have hi0 : (0 : Int) ≤ (n : Int) := Int.natCast_nonneg n
    have hi1 : (n : Int) < (L : Int) := by omega
    go_wp2
    go_region
    all_goals go_wp2
    all_goals go_ret
    all_goals exact ⟨rfl, wout_drew (wout_set hgn.out.1 n _ HA.out)⟩)
end

/-- what waits, as cells -/
def wcells (W : List (Nat × ByteArray)) : List Value := W.flatMap fun x => [Value.int .i64 (x.1 : Int), Value.string x.2]
/-- sectors behind writes -/
def setAll (ys : List Value) (W : List (Nat × ByteArray)) : List Value := W.foldl (fun l x => l.set x.1 (.string x.2)) ys
theorem setAll_len (ys : List Value) (W : List (Nat × ByteArray)) : (setAll ys W).length = ys.length := by
  unfold setAll
  induction W generalizing ys with
  | nil => rfl
  | cons x t ih => rw [List.foldl_cons, ih, List.length_set]
theorem setAll_snoc (ys : List Value) (W : List (Nat × ByteArray)) (k : Nat) (hk : k < W.length) : setAll ys (W.take (k + 1)) = (setAll ys (W.take k)).set W[k].1 (.string W[k].2) := by
  unfold setAll
  rw [List.take_add_one, List.getElem?_eq_getElem hk, List.foldl_append]
  rfl
theorem wcells_len (W : List (Nat × ByteArray)) : (wcells W).length = W.length * 2 := by
  unfold wcells
  induction W with
  | nil => rfl
  | cons x t ih => rw [List.flatMap_cons, List.length_append, ih, List.length_cons]; simp; omega
theorem wcells_get (W : List (Nat × ByteArray)) (k : Nat) (hk : k < W.length) : (wcells W)[k * 2]? = some (Value.int .i64 (W[k].1 : Int)) ∧ (wcells W)[k * 2 + 1]? = some (Value.string W[k].2) := by
  induction W generalizing k with
  | nil => simp at hk
  | cons x t ih =>
    cases k with
    | zero => exact ⟨rfl, rfl⟩
    | succ k =>
      have := ih k (by simpa using hk)
      have e1 : (k + 1) * 2 = k * 2 + 1 + 1 := by omega
      rw [e1]
      simpa [wcells] using this

/-- while what waits is made to last -/
structure BInv (w wr : World) (g : Nat) (vn vw : Value) (st : Int) (ar : Bool) (le : Int) (gl L C : Nat) (ys : List Value) (W : List (Nat × ByteArray)) (k : Nat) : Prop where
  head : Head wr g vn (.slice (some ⟨gl, 0, none⟩) L C) vw st ar le false
  own : wr.ownsRow 0 95 2 vw W.length (wcells W)
  rows : wr.ownsRow 0 9 1 (.slice (some ⟨gl, 0, none⟩) L C) L (setAll ys (W.take k))
  only : Only (fun b => b = g ∨ b = gl) w wr

theorem new0 (w : World) (a b : Value) (t : TypeId) : (w.alloc (.cells #[a, b] t)).cell? ⟨w.heap.size, 0, none⟩ = some a := by rw [World.cell?_alloc_mark]; rfl
theorem new1 (w : World) (a b : Value) (t : TypeId) : (w.alloc (.cells #[a, b] t)).cell? ⟨w.heap.size, 1, none⟩ = some b := by rw [World.cell?_alloc_mark]; rfl
theorem binv_round {w wr : World} {g : Nat} {vn vw : Value} {st : Int} {ar : Bool} {le : Int} {gl L C : Nat} {ys : List Value} {W : List (Nat × ByteArray)} {k : Nat} (h : BInv w wr g vn vw st ar le gl L C ys W k) (hne : vw.ownBlock ≠ some g ∧ vw.ownBlock ≠ some gl ∧ gl ≠ g)
    (n : Nat) (s : ByteArray) (hs : setAll ys (W.take (k + 1)) = (setAll ys (W.take k)).set n (.string s)) (o : Obj) : BInv w ((wr.alloc o).setCell ⟨gl, n, none⟩ (.string s)).drew g vn vw st ar le gl L C ys W (k + 1) := by
  have hA : Only (fun _ => False) wr (wr.alloc o) := (Only.refl _ wr).alloc o
  have hS : Only (· = gl) (wr.alloc o) ((wr.alloc o).setCell ⟨gl, n, none⟩ (.string s)).drew := (only_set (Only.refl _ _) n _).drew
  refine ⟨head_only (head_only h.head hA fun x => x) hS fun x => hne.2.2 x.symm, own_only (own_only h.own hA fun _ _ x => x) hS fun k' hk e => hne.2.1 (by rw [hk, e]), ?_, (h.only.trans (hA.mono fun _ _ x => x.elim)).trans (hS.mono fun _ _ x => .inr x)⟩
  rw [hs]
  exact (World.ownsRow.stored (own_only h.rows hA fun _ _ x => x) n _).1

section
variable (g : Nat) (vn : Value) (st : Int) (ar : Bool) (le : Int) (w : World)
set_option maxRecDepth 20000 in
theorem barrier_ok (le' : Int) (hle : le' = if ar = true then le - 1 else le) (ao : Option Addr) (cw : Nat) (W : List (Nat × ByteArray)) (m : Nat) (hmW : W.length = m) (hm : m ≤ 1000000) (gl L C : Nat) (ys : List Value)
    (hown : Hid (w.ownsRow 0 95 2 (.slice ao m cw) W.length (wcells W))) (hneg : Hid ((Value.slice ao m cw).ownBlock ≠ some g ∧ (Value.slice ao m cw).ownBlock ≠ some gl ∧ gl ≠ g))
    (hin : Hid (∀ x ∈ W, x.1 < L)) (hN : Hid (w.ownsRow 0 9 1 (.slice (some ⟨gl, 0, none⟩) L C) L ys)) (h0 : 0 ≤ le) (h1 : le ≤ 9223372036854775807) (h2 : 0 ≤ st) (h3 : st ≤ 1000000000)
    (hb : Hid (Head w g vn (.slice (some ⟨gl, 0, none⟩) L C) (.slice ao m cw) st ar le false)) (hd : ¬ (ar = true ∧ le = 0)) :
    Calls Tryd.prog 28 #[.pointer (some ⟨g, 0, none⟩)] w fun e w' => e = .returned (.int .i64 0) ∧
      Head w' g vn (.slice (some ⟨gl, 0, none⟩) L C) (.slice none 0 0) (st + 1) ar le' false ∧ w'.ownsRow 0 9 1 (.slice (some ⟨gl, 0, none⟩) L C) L (setAll ys W) ∧ Only (fun b => b = g ∨ b = gl) w w' := by
  have HC0 := change_ok g vn (.slice (some ⟨gl, 0, none⟩) L C) (.slice ao m cw) st ar le w h0 h1 h2 h3 hb hd
  rw [← hle] at HC0
  clear hle
  have HC := Lib.hid HC0
  clear HC0
  have HmW := Lib.hid (fun _ : True => hmW)
  clear hmW
  go_enter Tryd.func28, Tryd.ntmps28
  go_wp2_with fail
  refine HC.out.mono ?_
  rintro e w1 ⟨rfl, hb1, ho1⟩
  have hI0 : Hid (BInv w w1 g vn (.slice ao m cw) (st + 1) ar le' gl L C ys W 0) := Lib.hid ⟨hb1, own_only hown.out ho1 fun k hk e => hneg.out.1 (by rw [hk, e]), own_only hN.out ho1 fun k hk e => hneg.out.2.2 (by cases hk; exact e), ho1.mono fun _ _ h => .inl h⟩
  have hc2 := head2 hb1
  clear hb1 ho1
  go_wp2_with fail
  go_loopw [18] (fun i wr => ∃ k : Nat, i = .int .i64 (k : Int) ∧ k ≤ m ∧ Hid (BInv w wr g vn (.slice ao m cw) (st + 1) ar le' gl L C ys W k)) (fun i _ => m - (intOf i).toNat)
  case atStart => exact ⟨0, rfl, by omega, hI0⟩
  case round =>
    obtain ⟨k, rfl, hkm, hI⟩ := hrel
    clear hI0 hc2
    by_cases hk : k < m
    · have hkW : k < W.length := by rw [HmW.out trivial]; exact hk
      have hII := hI.out
      obtain ⟨gw, rfl⟩ : ∃ gw, ao = some ⟨gw, 0, none⟩ := by
        rcases hII.own.2 with ⟨h, h'⟩ | ⟨gw, cap, cur, h, _⟩
        · omega
        · cases h; exact ⟨gw, rfl⟩
      have hown' := hII.own
      rw [HmW.out trivial] at hown'
      have c0 : wr.cell? ⟨gw, k * 2, none⟩ = some (Value.int .i64 (W[k].1 : Int)) := by rw [World.ownsRow.cellAt hown' (k * 2) (by omega)]; exact (wcells_get W k hkW).1
      have c1 : wr.cell? ⟨gw, k * 2 + 1, none⟩ = some (Value.string W[k].2) := by rw [World.ownsRow.cellAt hown' (k * 2 + 1) (by omega)]; exact (wcells_get W k hkW).2
      have hnL := Lib.hid (hin.out _ (List.getElem_mem hkW))
      have hset := Lib.hid (fun _ : True => setAll_snoc ys W k hkW)
      generalize W[k].1 = n at *
      generalize W[k].2 = s at *
      have hA : Only (fun _ => False) wr (wr.alloc (Obj.cells #[Value.int IntKind.i64 (n : Int), Value.string s] 95)) := (Only.refl _ wr).alloc _
      have d1 := head1 (head_only hII.head hA fun x => x)
      have hr := own_only hII.rows hA fun _ _ x => x
      have fn := World.ownsRow.frozenAt hr n
      obtain ⟨x, cn⟩ : ∃ x, (wr.alloc (Obj.cells #[Value.int IntKind.i64 (n : Int), Value.string s] 95)).cell? ⟨gl, n, none⟩ = some x := by
        rw [World.ownsRow.cellAt hr n (by have := hnL.out; omega)]
        exact ⟨_, List.getElem?_eq_getElem (by have := hII.rows.1; have := hnL.out; omega)⟩
      have hnext := Lib.hid (binv_round hII hneg.out n s (hset.out trivial) (Obj.cells #[Value.int IntKind.i64 (n : Int), Value.string s] 95))
      have hi0 : (0 : Int) ≤ (n : Int) := Int.natCast_nonneg n
      have hi1 : (n : Int) < (L : Int) := by have := hnL.out; omega
      have c80 : (wr.alloc (Obj.cells #[Value.int IntKind.i64 (n : Int), Value.string s] 95)).cell? ⟨wr.heap.size, 0, none⟩ = some (Value.int IntKind.i64 (n : Int)) := new0 _ _ _ _
      have c81 : (wr.alloc (Obj.cells #[Value.int IntKind.i64 (n : Int), Value.string s] 95)).cell? ⟨wr.heap.size, 1, none⟩ = some (Value.string s) := new1 _ _ _ _
      clear hII hown' hA hr
      go_wp2_with fail
      generalize (wr.alloc (Obj.cells #[Value.int IntKind.i64 (n : Int), Value.string s] 95)) = w2 at *
      go_region
      all_goals go_wp2_with fail
      all_goals go_roundw
      case rel => exact ⟨k + 1, by go_num, by omega, hnext⟩
      case measure => simp [intOf]; omega
    · obtain rfl : m = k := by omega
      have hII := hI.out
      have d2 := head2 hII.head
      have f2 := head_free (i := 2) hII.head
      have hfin := Lib.hid (And.intro (head_set2 hII.head (.slice none 0 0)) (And.intro hII.rows hII.only))
      clear hII
      go_wp2_with fail
      go_ret
      obtain ⟨a, b, c⟩ := hfin.out
      rw [List.take_of_length_le (by rw [HmW.out trivial]; exact Nat.le_refl _)] at b
      have hS : Only (· = g) wr (wr.setCell ⟨g, 2, none⟩ (.slice none 0 0)) := only_set (Only.refl _ _) 2 _
      exact ⟨rfl, a, own_only b hS fun k' hk e => hneg.out.2.2 (by cases hk; exact e), c.trans (hS.mono fun _ _ x => .inl x)⟩
end

/-- sectors behind the writes that a crash picks -/
def pickTo (ys : List Value) (W : List (Nat × ByteArray)) (f : Nat → Bool) : Nat → List Value
  | 0 => ys
  | k + 1 => if f k = true then (pickTo ys W f k).set (W.getD k (0, ByteArray.empty)).1 (.string (W.getD k (0, ByteArray.empty)).2) else pickTo ys W f k
/-- what is read behind it -/
def nowTo (ns ls : List Value) (W : List (Nat × ByteArray)) : Nat → List Value
  | 0 => ns
  | k + 1 => (nowTo ns ls W k).set (W.getD k (0, ByteArray.empty)).1 (ls.getD (W.getD k (0, ByteArray.empty)).1 default)
theorem pickTo_len (ys : List Value) (W : List (Nat × ByteArray)) (f : Nat → Bool) : ∀ k, (pickTo ys W f k).length = ys.length
  | 0 => rfl
  | k + 1 => by
    unfold pickTo
    split
    · rw [List.length_set, pickTo_len ys W f k]
    · exact pickTo_len ys W f k
theorem nowTo_len (ns ls : List Value) (W : List (Nat × ByteArray)) : ∀ k, (nowTo ns ls W k).length = ns.length
  | 0 => rfl
  | k + 1 => by unfold nowTo; rw [List.length_set, nowTo_len ns ls W k]
def AllStr (l : List Value) : Prop := ∀ v ∈ l, ∃ s : ByteArray, v = .string s
theorem allStr_set {l : List Value} (h : AllStr l) (n : Nat) (s : ByteArray) : AllStr (l.set n (.string s)) := by
  intro v hv
  rcases List.mem_or_eq_of_mem_set hv with h' | h'
  · exact h v h'
  · exact ⟨s, h'⟩
theorem pickTo_str {ys : List Value} (h : AllStr ys) (W : List (Nat × ByteArray)) (f : Nat → Bool) : ∀ k, AllStr (pickTo ys W f k)
  | 0 => h
  | k + 1 => by
    unfold pickTo
    split
    · exact allStr_set (pickTo_str h W f k) _ _
    · exact pickTo_str h W f k
def od (x : Int) : Bool := decide (bits .and .i64 x 1 = 1)

/-- while a crash picks -/
structure CInv (w wr : World) (g : Nat) (vn vw : Value) (st : Int) (ar : Bool) (le : Int) (off : Bool) (gl L C : Nat) (W : List (Nat × ByteArray)) (zs : List Value) : Prop where
  head : Head wr g vn (.slice (some ⟨gl, 0, none⟩) L C) vw st ar le off
  own : wr.ownsRow 0 95 2 vw W.length (wcells W)
  rows : wr.ownsRow 0 9 1 (.slice (some ⟨gl, 0, none⟩) L C) L zs
  only : Only (· = gl) w wr
theorem cinv_alloc {w wr : World} {g : Nat} {vn vw : Value} {st : Int} {ar : Bool} {le : Int} {off : Bool} {gl L C : Nat} {W : List (Nat × ByteArray)} {zs : List Value} (h : CInv w wr g vn vw st ar le off gl L C W zs) (o : Obj) : CInv w (wr.alloc o) g vn vw st ar le off gl L C W zs := by
  have hA : Only (fun _ => False) wr (wr.alloc o) := (Only.refl _ wr).alloc o
  exact ⟨head_only h.head hA fun x => x, own_only h.own hA fun _ _ x => x, own_only h.rows hA fun _ _ x => x, h.only.alloc o⟩
theorem cinv_set {w wr : World} {g : Nat} {vn vw : Value} {st : Int} {ar : Bool} {le : Int} {off : Bool} {gl L C : Nat} {W : List (Nat × ByteArray)} {zs : List Value} (h : CInv w wr g vn vw st ar le off gl L C W zs) (hne : vw.ownBlock ≠ some gl ∧ gl ≠ g)
    (n : Nat) (u : Value) : CInv w (wr.setCell ⟨gl, n, none⟩ u).drew g vn vw st ar le off gl L C W (zs.set n u) := by
  have hS : Only (· = gl) wr (wr.setCell ⟨gl, n, none⟩ u).drew := (only_set (Only.refl _ _) n _).drew
  exact ⟨head_only h.head hS fun x => hne.2 x.symm, own_only h.own hS fun k' hk e => hne.1 (by rw [hk, e]), (World.ownsRow.stored h.rows n u).1, h.only.trans hS⟩

/-- while what is read is set back -/
structure DInv (w wr : World) (g : Nat) (vw : Value) (st : Int) (ar : Bool) (le : Int) (off : Bool) (gl gn L C C' : Nat) (W : List (Nat × ByteArray)) (ls zs : List Value) : Prop where
  head : Head wr g (.slice (some ⟨gn, 0, none⟩) L C') (.slice (some ⟨gl, 0, none⟩) L C) vw st ar le off
  own : wr.ownsRow 0 95 2 vw W.length (wcells W)
  rows : wr.ownsRow 0 9 1 (.slice (some ⟨gl, 0, none⟩) L C) L ls
  now : wr.ownsRow 0 9 1 (.slice (some ⟨gn, 0, none⟩) L C') L zs
  only : Only (fun b => b = gl ∨ b = gn) w wr
theorem dinv_alloc {w wr : World} {g : Nat} {vw : Value} {st : Int} {ar : Bool} {le : Int} {off : Bool} {gl gn L C C' : Nat} {W : List (Nat × ByteArray)} {ls zs : List Value} (h : DInv w wr g vw st ar le off gl gn L C C' W ls zs) (o : Obj) : DInv w (wr.alloc o) g vw st ar le off gl gn L C C' W ls zs := by
  have hA : Only (fun _ => False) wr (wr.alloc o) := (Only.refl _ wr).alloc o
  exact ⟨head_only h.head hA fun x => x, own_only h.own hA fun _ _ x => x, own_only h.rows hA fun _ _ x => x, own_only h.now hA fun _ _ x => x, h.only.alloc o⟩
theorem dinv_set {w wr : World} {g : Nat} {vw : Value} {st : Int} {ar : Bool} {le : Int} {off : Bool} {gl gn L C C' : Nat} {W : List (Nat × ByteArray)} {ls zs : List Value} (h : DInv w wr g vw st ar le off gl gn L C C' W ls zs) (hne : vw.ownBlock ≠ some gn ∧ gn ≠ g ∧ gn ≠ gl)
    (n : Nat) (u : Value) : DInv w (wr.setCell ⟨gn, n, none⟩ u).drew g vw st ar le off gl gn L C C' W ls (zs.set n u) := by
  have hS : Only (· = gn) wr (wr.setCell ⟨gn, n, none⟩ u).drew := (only_set (Only.refl _ _) n _).drew
  exact ⟨head_only h.head hS fun x => hne.2.1 x.symm, own_only h.own hS fun k' hk e => hne.1 (by rw [hk, e]), own_only h.rows hS fun k' hk e => by cases hk; exact hne.2.2 e.symm, (World.ownsRow.stored h.now n u).1, h.only.trans (hS.mono fun _ _ x => .inr x)⟩

section
variable (g : Nat) (st : Int) (ar : Bool) (le : Int) (off : Bool) (w : World)
set_option maxRecDepth 20000 in
theorem crash_any (ao : Option Addr) (cw : Nat) (W : List (Nat × ByteArray)) (m : Nat) (hmW : W.length = m) (hm : m ≤ 1000000) (gl gn L C C' : Nat) (ys ns : List Value) (hys : Hid (AllStr ys))
    (hown : Hid (w.ownsRow 0 95 2 (.slice ao m cw) W.length (wcells W))) (hneg : Hid ((Value.slice ao m cw).ownBlock ≠ some g ∧ (Value.slice ao m cw).ownBlock ≠ some gl ∧ gl ≠ g ∧ (Value.slice ao m cw).ownBlock ≠ some gn ∧ gn ≠ g ∧ gn ≠ gl))
    (hin : Hid (∀ x ∈ W, x.1 < L)) (hL : Hid (w.ownsRow 0 9 1 (.slice (some ⟨gl, 0, none⟩) L C) L ys)) (hN : Hid (w.ownsRow 0 9 1 (.slice (some ⟨gn, 0, none⟩) L C') L ns))
    (sp : Option Addr) (P cp : Nat) (pk : Nat → Int) (hpk : Hid (∀ W', Only (· = gl) w W' → ∀ i, i < P → ∃ g' o, sp = some ⟨g', o, none⟩ ∧ W'.cell? ⟨g', o + i, none⟩ = some (.int .i64 (pk i))))
    (hb : Hid (Head w g (.slice (some ⟨gn, 0, none⟩) L C') (.slice (some ⟨gl, 0, none⟩) L C) (.slice ao m cw) st ar le off)) :
    Calls Tryd.prog 30 #[.pointer (some ⟨g, 0, none⟩), .slice sp P cp] w fun e w' => e = .returned (.tuple #[]) ∧
      Head w' g (.slice (some ⟨gn, 0, none⟩) L C') (.slice (some ⟨gl, 0, none⟩) L C) (.slice none 0 0) st false 0 false ∧
      w'.ownsRow 0 9 1 (.slice (some ⟨gl, 0, none⟩) L C) L (pickTo ys W (fun i => decide (i < P) && od (pk i)) m) ∧
      w'.ownsRow 0 9 1 (.slice (some ⟨gn, 0, none⟩) L C') L (nowTo ns (pickTo ys W (fun i => decide (i < P) && od (pk i)) m) W m) ∧ Only (fun b => b = g ∨ b = gl ∨ b = gn) w w' := by
  have HmW := Lib.hid (fun _ : True => hmW)
  clear hmW
  have hc2 := head2 hb.out
  have hI0 : Hid (CInv w w g (.slice (some ⟨gn, 0, none⟩) L C') (.slice ao m cw) st ar le off gl L C W ys) := Lib.hid ⟨hb.out, hown.out, hL.out, Only.refl _ _⟩
  go_enter Tryd.func30, Tryd.ntmps30
  go_wp2_with fail
  go_loopw [15] (fun i wr => ∃ k : Nat, i = .int .i64 (k : Int) ∧ k ≤ m ∧ Hid (CInv w wr g (.slice (some ⟨gn, 0, none⟩) L C') (.slice ao m cw) st ar le off gl L C W (pickTo ys W (fun i => decide (i < P) && od (pk i)) k))) (fun i _ => m - (intOf i).toNat)
  case atStart => exact ⟨0, rfl, by omega, hI0⟩
  case round =>
    obtain ⟨k, rfl, hkm, hI⟩ := hrel
    clear hI0 hc2
    by_cases hk : k < m
    · have hkW : k < W.length := by rw [HmW.out trivial]; exact hk
      have hII := hI.out
      obtain ⟨gw, rfl⟩ : ∃ gw, ao = some ⟨gw, 0, none⟩ := by
        rcases hII.own.2 with ⟨h, h'⟩ | ⟨gw, cap, cur, h, _⟩
        · omega
        · cases h; exact ⟨gw, rfl⟩
      have hown' := hII.own
      rw [HmW.out trivial] at hown'
      have c0 : wr.cell? ⟨gw, k * 2, none⟩ = some (Value.int .i64 ((W.getD k (0, ByteArray.empty)).1 : Int)) := by rw [World.ownsRow.cellAt hown' (k * 2) (by omega)]; simpa [List.getD, hkW] using (wcells_get W k hkW).1
      have c1 : wr.cell? ⟨gw, k * 2 + 1, none⟩ = some (Value.string (W.getD k (0, ByteArray.empty)).2) := by rw [World.ownsRow.cellAt hown' (k * 2 + 1) (by omega)]; simpa [List.getD, hkW] using (wcells_get W k hkW).2
      have hnL := Lib.hid (show (W.getD k (0, ByteArray.empty)).1 < L by have := hin.out _ (List.getElem_mem hkW); simpa [List.getD, hkW] using this)
      have hset : Hid (True → pickTo ys W (fun i => decide (i < P) && od (pk i)) (k + 1) = if (decide (k < P) && od (pk k)) = true then (pickTo ys W (fun i => decide (i < P) && od (pk i)) k).set (W.getD k (0, ByteArray.empty)).1 (.string (W.getD k (0, ByteArray.empty)).2) else pickTo ys W (fun i => decide (i < P) && od (pk i)) k) := Lib.hid fun _ => rfl
      have hlz : Hid ((pickTo ys W (fun i => decide (i < P) && od (pk i)) k).length = L) := Lib.hid (by have := hII.rows.1; omega)
      generalize (W.getD k (0, ByteArray.empty)).1 = n at *
      generalize (W.getD k (0, ByteArray.empty)).2 = s at *
      obtain ⟨zs, hzs⟩ : ∃ zs, pickTo ys W (fun i => decide (i < P) && od (pk i)) k = zs := ⟨_, rfl⟩
      rw [hzs] at hII hset hlz
      clear hI hzs
      have h2 := cinv_alloc hII (Obj.cells #[Value.int IntKind.i64 (n : Int), Value.string s] 95)
      have d1 := head1 h2.head
      have fn := World.ownsRow.frozenAt h2.rows n
      obtain ⟨x, cn⟩ : ∃ x, (wr.alloc (Obj.cells #[Value.int IntKind.i64 (n : Int), Value.string s] 95)).cell? ⟨gl, n, none⟩ = some x := by
        rw [World.ownsRow.cellAt h2.rows n (by have := hnL.out; omega)]
        exact ⟨_, List.getElem?_eq_getElem (by have := hlz.out; have := hnL.out; omega)⟩
      have hi0 : (0 : Int) ≤ (n : Int) := Int.natCast_nonneg n
      have hi1 : (n : Int) < (L : Int) := by have := hnL.out; omega
      have c80 : (wr.alloc (Obj.cells #[Value.int IntKind.i64 (n : Int), Value.string s] 95)).cell? ⟨wr.heap.size, 0, none⟩ = some (Value.int IntKind.i64 (n : Int)) := new0 _ _ _ _
      have c81 : (wr.alloc (Obj.cells #[Value.int IntKind.i64 (n : Int), Value.string s] 95)).cell? ⟨wr.heap.size, 1, none⟩ = some (Value.string s) := new1 _ _ _ _
      have h2' := Lib.hid h2
      clear hII hown' h2
      by_cases hp : k < P
      · obtain ⟨g', o', rfl, hpc⟩ := hpk.out _ h2'.out.only k hp
        by_cases ho : bits .and .i64 (pk k) 1 = 1
        · have hnext := Lib.hid (cinv_set h2'.out ⟨hneg.out.2.1, hneg.out.2.2.1⟩ n (.string s))
          have hset' : Hid (True → pickTo ys W (fun i => decide (i < P) && od (pk i)) (k + 1) = zs.set n (.string s)) := Lib.hid fun _ => by rw [hset.out trivial, if_pos (by simp [od, hp, ho])]
          go_wp2_with fail
          generalize (wr.alloc (Obj.cells #[Value.int IntKind.i64 (n : Int), Value.string s] 95)) = w2 at *
          go_region
          all_goals go_wp2_with fail
          all_goals go_roundw
          case rel => exact ⟨k + 1, by go_num, by omega, by rw [hset'.out trivial]; exact hnext⟩
          case measure => simp [intOf]; omega
        · have hset' : Hid (True → pickTo ys W (fun i => decide (i < P) && od (pk i)) (k + 1) = zs) := Lib.hid fun _ => by rw [hset.out trivial, if_neg (by simp [od, ho])]
          go_wp2_with fail
          go_roundw
          case rel => exact ⟨k + 1, by go_num, by omega, by rw [hset'.out trivial]; exact h2'⟩
          case measure => simp [intOf]; omega
      · have hset' : Hid (True → pickTo ys W (fun i => decide (i < P) && od (pk i)) (k + 1) = zs) := Lib.hid fun _ => by rw [hset.out trivial, if_neg (by simp [hp])]
        go_wp2_with fail
        go_roundw
        case rel => exact ⟨k + 1, by go_num, by omega, by rw [hset'.out trivial]; exact h2'⟩
        case measure => simp [intOf]; omega
    · obtain rfl : m = k := by omega
      have hII := hI.out
      have hls := Lib.hid (pickTo_str hys.out W (fun i => decide (i < P) && od (pk i)) m)
      obtain ⟨ls, hlsE⟩ : ∃ ls, pickTo ys W (fun i => decide (i < P) && od (pk i)) m = ls := ⟨_, rfl⟩
      rw [hlsE] at hII hls
      have HlsE := Lib.hid (fun _ : True => hlsE)
      clear hI hlsE hpk
      have hJ0 : Hid (DInv w wr g (.slice ao m cw) st ar le off gl gn L C C' W ls (nowTo ns ls W 0)) := Lib.hid ⟨hII.head, hII.own, hII.rows, own_only hN.out hII.only fun k' hk e => hneg.out.2.2.2.2.2 (by cases hk; exact e), hII.only.mono fun _ _ x => .inl x⟩
      have d2 := head2 hII.head
      clear hII
      go_wp2_with fail
      go_loopw [47] (fun i wr => ∃ k : Nat, i = .int .i64 (k : Int) ∧ k ≤ m ∧ Hid (DInv w wr g (.slice ao m cw) st ar le off gl gn L C C' W ls (nowTo ns ls W k))) (fun i _ => m - (intOf i).toNat)
      case atStart => exact ⟨0, rfl, by omega, hJ0⟩
      case round =>
        obtain ⟨k, rfl, hkm, hI⟩ := hrel
        clear hJ0 d2
        by_cases hk : k < m
        · have hkW : k < W.length := by rw [HmW.out trivial]; exact hk
          have hII := hI.out
          obtain ⟨gw, rfl⟩ : ∃ gw, ao = some ⟨gw, 0, none⟩ := by
            rcases hII.own.2 with ⟨h, h'⟩ | ⟨gw, cap, cur, h, _⟩
            · omega
            · cases h; exact ⟨gw, rfl⟩
          have hown' := hII.own
          rw [HmW.out trivial] at hown'
          have c0 : wr.cell? ⟨gw, k * 2, none⟩ = some (Value.int .i64 ((W.getD k (0, ByteArray.empty)).1 : Int)) := by rw [World.ownsRow.cellAt hown' (k * 2) (by omega)]; simpa [List.getD, hkW] using (wcells_get W k hkW).1
          have c1 : wr.cell? ⟨gw, k * 2 + 1, none⟩ = some (Value.string (W.getD k (0, ByteArray.empty)).2) := by rw [World.ownsRow.cellAt hown' (k * 2 + 1) (by omega)]; simpa [List.getD, hkW] using (wcells_get W k hkW).2
          have hnL := Lib.hid (show (W.getD k (0, ByteArray.empty)).1 < L by have := hin.out _ (List.getElem_mem hkW); simpa [List.getD, hkW] using this)
          have hset : Hid (True → nowTo ns ls W (k + 1) = (nowTo ns ls W k).set (W.getD k (0, ByteArray.empty)).1 (ls.getD (W.getD k (0, ByteArray.empty)).1 default)) := Lib.hid fun _ => rfl
          have hlz : Hid ((nowTo ns ls W k).length = L) := Lib.hid (by have := hII.now.1; omega)
          generalize (W.getD k (0, ByteArray.empty)).1 = n at *
          generalize (W.getD k (0, ByteArray.empty)).2 = s at *
          obtain ⟨zs, hzs⟩ : ∃ zs, nowTo ns ls W k = zs := ⟨_, rfl⟩
          rw [hzs] at hII hset hlz
          clear hI hzs
          have h2 := dinv_alloc hII (Obj.cells #[Value.int IntKind.i64 (n : Int), Value.string s] 95)
          have d0 := head0 h2.head
          have d1 := head1 h2.head
          have fn := World.ownsRow.frozenAt h2.now n
          obtain ⟨x, cn⟩ : ∃ x, (wr.alloc (Obj.cells #[Value.int IntKind.i64 (n : Int), Value.string s] 95)).cell? ⟨gn, n, none⟩ = some x := by
            rw [World.ownsRow.cellAt h2.now n (by have := hnL.out; omega)]
            exact ⟨_, List.getElem?_eq_getElem (by have := hlz.out; have := hnL.out; omega)⟩
          have hll : n < ls.length := by have := h2.rows.1; have := hnL.out; omega
          obtain ⟨t, ht⟩ := hls.out _ (List.getElem_mem hll)
          have cl : (wr.alloc (Obj.cells #[Value.int IntKind.i64 (n : Int), Value.string s] 95)).cell? ⟨gl, n, none⟩ = some (.string t) := by
            rw [World.ownsRow.cellAt h2.rows n (by have := hnL.out; omega), List.getElem?_eq_getElem hll, ht]
          have hget : ls.getD n default = .string t := by simp [List.getD, hll, ht]
          rw [hget] at hset
          clear hget ht hll
          have hi0 : (0 : Int) ≤ (n : Int) := Int.natCast_nonneg n
          have hi1 : (n : Int) < (L : Int) := by have := hnL.out; omega
          have c80 : (wr.alloc (Obj.cells #[Value.int IntKind.i64 (n : Int), Value.string s] 95)).cell? ⟨wr.heap.size, 0, none⟩ = some (Value.int IntKind.i64 (n : Int)) := new0 _ _ _ _
          have c81 : (wr.alloc (Obj.cells #[Value.int IntKind.i64 (n : Int), Value.string s] 95)).cell? ⟨wr.heap.size, 1, none⟩ = some (Value.string s) := new1 _ _ _ _
          have hnext := Lib.hid (dinv_set h2 ⟨hneg.out.2.2.2.1, hneg.out.2.2.2.2⟩ n (.string t))
          clear hII hown' h2
          go_wp2_with fail
          generalize (wr.alloc (Obj.cells #[Value.int IntKind.i64 (n : Int), Value.string s] 95)) = w2 at *
          go_region
          all_goals go_wp2_with fail
          all_goals go_roundw
          case rel => exact ⟨k + 1, by go_num, by omega, by rw [hset.out trivial]; exact hnext⟩
          case measure => simp [intOf]; omega
        · obtain rfl : m = k := by omega
          have hII := hI.out
          have d2 := head2 hII.head
          have f2 := head_free (i := 2) hII.head
          obtain ⟨h3, h4, h5, h6, f3, f4, f5, f6⟩ := head_facts hII.head
          have hfin := Lib.hid (And.intro (head_set6 (head_set5 (head_set4 (head_set2 hII.head (.slice none 0 0)) false) 0) false) hII)
          clear hII
          go_wp2_with fail
          go_end0
          obtain ⟨a, b⟩ := hfin.out
          have hS : Only (· = g) wr ((((wr.setCell ⟨g, 2, none⟩ (.slice none 0 0)).setCell ⟨g, 4, none⟩ (.bool false)).setCell ⟨g, 5, none⟩ (.int .i64 0)).setCell ⟨g, 6, none⟩ (.bool false)) := only_set (only_set (only_set (only_set (Only.refl _ _) 2 _) 4 _) 5 _) 6 _
          rw [HlsE.out trivial]
          exact ⟨rfl, a, own_only b.rows hS fun k' hk e => hneg.out.2.2.1 (by cases hk; exact e), own_only b.now hS fun k' hk e => hneg.out.2.2.2.2.1 (by cases hk; exact e), (b.only.mono fun _ _ x => .inr x).trans (hS.mono fun _ _ x => .inl x)⟩
end

open Go.ChangeShapes Go.WideShapes Go.ChangeAt Go.RowKit


theorem read_world (w : World) (t : TypeId) (s : ByteArray) : (∀ j, j < s.size → (Lib.bytesWorld w t s).cell? ⟨w.heap.size, j, none⟩ = some (.int .u8 (s.data.toList.getD j 0).toNat)) ∧ w.heap.size < (Lib.bytesWorld w t s).heap.size ∧ Below w.heap.size w (Lib.bytesWorld w t s) := by
  refine ⟨fun j hj => Lib.bytesWorld_cell w t s j hj, by rw [Lib.bytesWorld_size]; omega, ?_⟩
  refine ⟨?_, ?_, ?_, by rw [Lib.bytesWorld_size]; omega, fun k hk => Lib.bytesWorld_at_old w t s k hk⟩
  · simp [Lib.bytesWorld, World.freeze, World.alloc, World.drew, -World.alloc_eq, -World.drew_eq]
  · simp [Lib.bytesWorld, World.freeze, World.alloc, World.drew, -World.alloc_eq, -World.drew_eq]
  · simp [Lib.bytesWorld, World.freeze, World.alloc, World.drew, -World.alloc_eq, -World.drew_eq]
section
variable (g : Nat) (vn vl vw : Value) (st : Int) (ar : Bool) (le : Int) (off : Bool) (w : World)
set_option maxRecDepth 20000 in
theorem write_down (n : Int) (sp : Option Addr) (cap : Nat) (gn L C : Nat) (hv : vn = .slice (some ⟨gn, 0, none⟩) L C) (hn0 : 0 ≤ n) (hn : n < (L : Int))
    (hb : Hid (Head w g vn vl vw st ar le off)) (hd : Hid ((ar = true ∧ le = 0) ∨ off = true)) :
    Calls Tryd.prog 27 #[.pointer (some ⟨g, 0, none⟩), .int .i64 n, .slice sp 512 cap] w fun e w' => e = .returned (.int .i64 8) ∧ Head w' g vn vl vw st ar le true ∧ Only (· = g) w w' := by
  have HC := Lib.hid (change_down g vn vl vw st ar le off w hb hd)
  have hc6 := head6 hb.out
  cases off with
  | true =>
    go_enter Tryd.func27, Tryd.ntmps27
    go_wp2_with fail
    refine HC.out.mono ?_
    rintro e w1 ⟨rfl, hb1, ho1⟩
    have h1 := Lib.hid (And.intro hb1 ho1)
    clear hb1 ho1
    go_wp2_with fail
    go_ret
    exact ⟨rfl, h1.out⟩
  | false =>
    have HH := Lib.hid (has_any g vn vl vw st ar le false w (some ⟨gn, 0, none⟩) n L C hv hb)
    have hg0 : decide ((0 : Int) ≤ n ∧ n < (L : Int)) = true := decide_eq_true ⟨hn0, hn⟩
    rw [hg0] at HH
    go_enter Tryd.func27, Tryd.ntmps27
    go_wp2_with fail
    refine HH.out.mono ?_
    rintro e w' ⟨rfl, hww⟩
    have hww := hww.symm
    subst hww
    go_wp2_with fail
    refine HC.out.mono ?_
    rintro e w1 ⟨rfl, hb1, ho1⟩
    have h1 := Lib.hid (And.intro hb1 ho1)
    clear hb1 ho1
    go_wp2_with fail
    go_ret
    exact ⟨rfl, h1.out⟩
set_option maxRecDepth 20000 in
theorem barrier_down (hb : Hid (Head w g vn vl vw st ar le off)) (hd : Hid ((ar = true ∧ le = 0) ∨ off = true)) :
    Calls Tryd.prog 28 #[.pointer (some ⟨g, 0, none⟩)] w fun e w' => e = .returned (.int .i64 8) ∧ Head w' g vn vl vw st ar le true ∧ Only (· = g) w w' := by
  have HC := Lib.hid (change_down g vn vl vw st ar le off w hb hd)
  go_enter Tryd.func28, Tryd.ntmps28
  go_wp2_with fail
  refine HC.out.mono ?_
  rintro e w1 ⟨rfl, hb1, ho1⟩
  have h1 := Lib.hid (And.intro hb1 ho1)
  clear hb1 ho1
  go_wp2_with fail
  go_ret
  exact ⟨rfl, h1.out⟩
set_option maxRecDepth 20000 in
theorem read_down (n : Int) (hb : Hid (Head w g vn vl vw st ar le true)) :
    Calls Tryd.prog 31 #[.pointer (some ⟨g, 0, none⟩), .int .i64 n] w fun e w' => e = .returned (.tuple #[.slice none 0 0, .int .i64 8]) ∧ w' = w := by
  have hc6 := head6 hb.out
  go_enter Tryd.func31, Tryd.ntmps31
  go_wp2_with fail
  go_ret2
  exact ⟨rfl, rfl⟩
set_option maxRecDepth 20000 in
theorem read_ok (n : Nat) (s : ByteArray) (gn L C : Nat) (hv : vn = .slice (some ⟨gn, 0, none⟩) L C) (hn : n < L) (hc : w.cell? ⟨gn, n, none⟩ = some (.string s)) (hb : Hid (Head w g vn vl vw st ar le false)) :
    Calls Tryd.prog 31 #[.pointer (some ⟨g, 0, none⟩), .int .i64 (n : Int)] w fun e w' => ∃ cap, e = .returned (.tuple #[.slice (some ⟨w.heap.size, 0, none⟩) s.size cap, .int .i64 0]) ∧ (∀ j, j < s.size → w'.cell? ⟨w.heap.size, j, none⟩ = some (.int .u8 (s.data.toList.getD j 0).toNat)) ∧ w.heap.size < w'.heap.size ∧ Below w.heap.size w w' := by
  have hcv := Lib.run_convert_string_bytes (P := Tryd.prog) w 9 34 5 s Tryd.underlying9 Tryd.underlying34 Tryd.underlying5
  have HBW := Lib.hid (read_world w 5 s)
  generalize Lib.bytesWorld w 5 s = w2 at *
  generalize grownCap w s.size 0 5 = cp at *
  have hc6 := head6 hb.out
  have hc0 := head0 hb.out
  have HH := Lib.hid (has_any g vn vl vw st ar le false w (some ⟨gn, 0, none⟩) n L C hv hb)
  have hg0 : decide ((0 : Int) ≤ (n : Int) ∧ (n : Int) < (L : Int)) = true := decide_eq_true (by omega)
  rw [hg0] at HH
  have hi0 : (0 : Int) ≤ (n : Int) := Int.natCast_nonneg n
  have hi1 : (n : Int) < (L : Int) := by omega
  go_enter Tryd.func31, Tryd.ntmps31
  go_wp2_with fail
  refine HH.out.mono ?_
  rintro e w' ⟨rfl, hww⟩
  have hww := hww.symm
  subst hww
  go_wp2_with fail
  go_ret2
  exact ⟨cp, rfl, HBW.out⟩
end

theorem info_u8 : (Tryd.prog.info? 5).map (fun i => (i.zero, i.size, i.bytes)) = some (some (.int .u8 0), 1, 1) := by kernel_rfl
/-- a row that is filled up to k -/
def fillTo (n : Nat) (z a : Value) (k : Nat) : List Value := List.replicate k a ++ List.replicate (n - k) z
theorem fillTo_set (n : Nat) (z a : Value) (k : Nat) (hk : k < n) : (fillTo n z a k).set k a = fillTo n z a (k + 1) := by
  unfold fillTo
  rw [List.set_append_right _ _ (by simp), List.length_replicate, Nat.sub_self]
  obtain ⟨m, hm⟩ : ∃ m, n - k = m + 1 := ⟨n - k - 1, by omega⟩
  rw [hm, show n - (k + 1) = m by omega, List.replicate_succ, List.set_cons_zero, List.replicate_succ', List.append_assoc]
  rfl
theorem fillTo_zero (n : Nat) (z a : Value) : fillTo n z a 0 = List.replicate n z := by simp [fillTo]
theorem fillTo_all (n : Nat) (z a : Value) : fillTo n z a n = List.replicate n a := by simp [fillTo]
theorem fillTo_len (n : Nat) (z a : Value) (k : Nat) (hk : k ≤ n) : (fillTo n z a k).length = n := by simp [fillTo]; omega

structure FInv (w wr : World) (g : Nat) (e : TypeId) (n : Nat) (z a : Value) (k : Nat) : Prop where
  row : wr.ownsRow w.heap.size e 1 (.slice (some ⟨g, 0, none⟩) n n) n (fillTo n z a k)
  below : Below w.heap.size w wr
theorem info_str : (Tryd.prog.info? 9).map (fun i => (i.zero, i.size, i.bytes)) = some (some (.string ⟨#[]⟩), 1, 16) := by kernel_rfl
theorem splice_fill (n : Nat) (z a : Value) (k c : Nat) : splice (fillTo n z a k) k (List.replicate c a) = fillTo n z a (k + c) := by
  unfold splice fillTo
  rw [List.take_left' (by simp), List.length_replicate, List.drop_append, List.length_replicate, List.drop_of_length_le (by simp), List.nil_append, Nat.add_sub_cancel_left, List.drop_replicate, ← List.append_assoc, List.replicate_append_replicate, Nat.sub_sub]
theorem mk_strs (N : Nat) (hN2 : N ≤ 1000) (w : World) : (Instr.makeSlice 33 (.int .i64 (N : Int)) (.int .i64 (N : Int))).run Tryd.prog w = .ok (.slice (some ⟨w.heap.size, 0, none⟩) N N) (w.alloc (.cells (fillTo N (.string ⟨#[]⟩) (.string ⟨#[]⟩) 0).toArray 9)) := by
  obtain ⟨i0, hi, hz0, hz1, hz2⟩ := info_parts info_str
  have h := run_makeSlice (P := Tryd.prog) w 33 9 i0 (.string ⟨#[]⟩) Tryd.underlying33 hi hz0 .i64 .i64 (N : Int) (N : Int) (by omega) (Int.le_refl _) (by rw [hz1]; simp; omega) (by rw [hz2]; omega) (by omega)
  rw [hz1] at h
  simp only [Int.toNat_natCast, Nat.mul_one] at h
  rw [h, fillTo_zero, show (Value.string ⟨#[]⟩).cells = #[Value.string ⟨#[]⟩] from rfl, ← toList_madeCells_one, Array.toArray_toList]
theorem fill_at (w : World) (g n : Nat) (z a : Value) (k : Nat) (t : TypeId) (hrow : w.heap[g]? = some (.cells (fillTo n z a k).toArray t (0, 0))) (j : Nat) (hj : j < k) : w.cell? ⟨g, j, none⟩ = some a := by
  have : w.cell? ⟨g, j, none⟩ = (fillTo n z a k).toArray[j]? := by simp [World.cell?, hrow]
  rw [this]
  rw [List.getElem?_toArray]
  unfold fillTo
  rw [List.getElem?_append_left (by rw [List.length_replicate]; exact hj), List.getElem?_replicate, if_pos hj]

structure RInv (w wr : World) (n : Nat) (z a : Value) (k : Nat) : Prop where
  row : wr.heap[w.heap.size]? = some (.cells (fillTo n z a k).toArray 9 (0, 0))
  below : Below w.heap.size w wr
set_option maxRecDepth 20000 in
theorem repeat_any (b c N : Nat) (t : ByteArray) (hN : 1 ≤ N) (hN2 : N ≤ 1000) (w : World) (hx : w.cell? ⟨b, 0, none⟩ = some (.string t)) :
    Calls Tryd.prog 46 #[.slice (some ⟨b, 0, none⟩) 1 c, .int .i64 (N : Int)] w fun e w' => e = .returned (.slice (some ⟨w.heap.size, 0, none⟩) N N) ∧ RInv w w' N (.string ⟨#[]⟩) (.string t) N := by
  have hMul := Lib.hid (Tryd.bits_Mul 1 N (by omega) (by omega) w)
  rw [show (1 * N / 18446744073709551616 : Nat) = 0 by omega, show (1 * N % 18446744073709551616 : Nat) = N by omega] at hMul
  have hmk := mk_strs N hN2 w
  have hlt : b < w.heap.size := World.block_lt_of_cell? w _ hx
  have hx1 : Hid ((w.alloc (.cells (fillTo N (.string ⟨#[]⟩) (.string ⟨#[]⟩) 0).toArray 9)).cell? ⟨b, 0, none⟩ = some (.string t)) := Lib.hid ((World.cell?_alloc_old w _ _ (Nat.ne_of_lt hlt)).trans hx)
  have hrow0 : Hid ((w.alloc (.cells (fillTo N (.string ⟨#[]⟩) (.string ⟨#[]⟩) 0).toArray 9)).heap[w.heap.size]? = some (.cells (fillTo N (.string ⟨#[]⟩) (.string t) 0).toArray 9 (0, 0))) := Lib.hid (by rw [fillTo_zero N _ (.string t), ← fillTo_zero N (.string ⟨#[]⟩) (.string ⟨#[]⟩)]; exact Array.getElem?_push_size)
  have hbe0 : Hid (Below w.heap.size w (w.alloc (.cells (fillTo N (.string ⟨#[]⟩) (.string ⟨#[]⟩) 0).toArray 9))) := Lib.hid ((Below.refl _ w).alloc (Nat.le_refl _) _)
  obtain ⟨wa, hwa⟩ : ∃ wa, w.alloc (.cells (fillTo N (.string ⟨#[]⟩) (.string ⟨#[]⟩) 0).toArray 9) = wa := ⟨_, rfl⟩
  rw [hwa] at hmk hx1 hrow0 hbe0
  clear hwa
  have hN0 : ¬ ((N : Int) < 0) := by omega
  go_enter Tryd.func46, Tryd.ntmps46
  go_wp2_with fail
  refine hMul.out.mono ?_
  rintro e w' ⟨rfl, hww⟩
  have hww := hww.symm
  subst hww
  have hNg : ¬ (9223372036854775807 < (N : Int)) := by omega
  go_wp2_with (refine wpList_copy_splice rfl (.tmp 31) (.tmp 32) 33 33 rfl 9 Tryd.underlying33 (by kernel_rfl) _ _ _ _ _ _ rfl rfl w.heap.size 0 (fillTo N (.string ⟨#[]⟩) (.string t) 0) 9 hrow0.out (List.replicate 1 (.string t)) (by rw [List.length_replicate]; exact (Nat.min_eq_left hN).symm) (fun _ => ⟨rfl, ⟨b, 0, none⟩, rfl, fun j v hj => by rw [List.getElem?_replicate] at hj; split at hj; (cases hj; rw [show j = 0 by omega]; exact hx1.out); cases hj⟩) (by rw [List.length_replicate, fillTo_len _ _ _ _ (Nat.zero_le _)]; omega) (by intro v hv; rw [List.mem_replicate] at hv; rw [hv.2]; rfl) w.heap.size w hbe0.out (Nat.le_refl _) ?_; intro w2 HG2 hB2)
  have hI0 : Hid (RInv w w2 N (.string ⟨#[]⟩) (.string t) 1) := Lib.hid ⟨by have := HG2.out; rwa [splice_fill, Nat.zero_add] at this, hB2⟩
  clear HG2 hB2 hx1 hrow0 hbe0
  go_wp2_with fail
  go_loopw [8] (fun i wr => ∃ k : Nat, i = .int .i64 (k : Int) ∧ 1 ≤ k ∧ k ≤ N ∧ Hid (RInv w wr N (.string ⟨#[]⟩) (.string t) k)) (fun i _ => N - (intOf i).toNat)
  case atStart => exact ⟨1, rfl, by omega, hN, hI0⟩
  case round =>
    obtain ⟨k, rfl, hk1, hkm, hJ⟩ := hrel
    clear hI0
    by_cases hk : k < N
    · obtain ⟨q, hq⟩ : ∃ q, Nat.min k (N - k) = q := ⟨_, rfl⟩
      have hq1 : 1 ≤ q := by rw [← hq]; exact Nat.le_min.2 ⟨hk1, by omega⟩
      have hq2 : q ≤ k := by rw [← hq]; exact Nat.min_le_left _ _
      have hq3 : q ≤ N - k := by rw [← hq]; exact Nat.min_le_right _ _
      have HQ := Lib.hid (fun _ : True => hq)
      clear hq
      have hw : IntKind.i64.wrap ((k : Int) + (q : Int)) = ((k + q : Nat) : Int) := by rw [IntKind.wrap_i64]; omega
      go_wp2_with fail
      have hNk : ¬ N = k := by omega
      have hrow := Lib.hid (fun _ : True => hJ.out.row)
      have hsrc : Hid (∀ (j : Nat) (v : Value), (List.replicate q (Value.string t))[j]? = some v → wr.drew.cell? ((⟨w.heap.size, 0, none⟩ : Addr).add j) = some v) := Lib.hid fun j v hj => by
        rw [List.getElem?_replicate] at hj
        split at hj
        · cases hj
          rw [Addr.add_lit, Nat.zero_add]
          exact fill_at _ _ _ _ _ _ _ hJ.out.row j (by omega)
        · cases hj
      go_region_law (refine step_copy_splice rfl (.tmp 41) (.tmp 44) 33 33 rfl 9 Tryd.underlying33 (by kernel_rfl) (some ⟨w.heap.size, k, none⟩) (some ⟨w.heap.size, 0, none⟩) (N - k) (N - k) k N (by simp [Act.eval, Act.put]) (by simp [Act.eval, Act.put]) w.heap.size k (fillTo N (.string ⟨#[]⟩) (.string t) k) 9 (hrow.out trivial) (List.replicate q (.string t)) (by rw [List.length_replicate]; exact (HQ.out trivial).symm) (fun _ => ⟨rfl, ⟨w.heap.size, 0, none⟩, rfl, hsrc.out⟩) (by rw [List.length_replicate, fillTo_len _ _ _ _ hkm]; omega) (by intro v hv; rw [List.mem_replicate] at hv; rw [hv.2]; rfl) w.heap.size w hJ.out.below.drew (Nat.le_refl _) ?_; intro w3 HG3 hB3; rw [List.length_replicate]; have hnext : Hid (RInv w w3 N (.string ⟨#[]⟩) (.string t) (k + q)) := Lib.hid ⟨by have := HG3.out; rwa [splice_fill] at this, hB3⟩; clear HG3 hB3)
      all_goals go_wp2_with fail
      all_goals go_roundw
      case rel =>
        rw [show ((k : Int) + (q : Int)) = ((k + q : Nat) : Int) from rfl]
        exact ⟨_, _, _, _, _, _, _, _, _, _, _, _, _, _, ⟨k + q, rfl, by omega, by omega, hnext⟩, rfl⟩
      case measure => simp [intOf, Act.put]; omega
    · obtain rfl : k = N := by omega
      go_wp2_with fail
      go_ret
      exact ⟨rfl, hJ.out⟩

/-- a disk in memory from block B on -/
structure DkAt (B : Nat) (w : World) (g gn gl L cn cl : Nat) (vw : Value) (ns ls : List Value) (W : List (Nat × ByteArray)) (st : Int) (ar : Bool) (le : Int) (off : Bool) : Prop where
  head : Head w g (.slice (some ⟨gn, 0, none⟩) L cn) (.slice (some ⟨gl, 0, none⟩) L cl) vw st ar le off
  now : w.ownsRow 0 9 1 (.slice (some ⟨gn, 0, none⟩) L cn) L ns
  rows : w.ownsRow 0 9 1 (.slice (some ⟨gl, 0, none⟩) L cl) L ls
  own : w.ownsRow 0 95 2 vw W.length (wcells W)
  ge : B ≤ g ∧ B ≤ gn ∧ B ≤ gl ∧ ∀ k, vw.ownBlock = some k → B ≤ k
  ne : gn ≠ g ∧ gl ≠ g ∧ gn ≠ gl ∧ vw.ownBlock ≠ some g ∧ vw.ownBlock ≠ some gn ∧ vw.ownBlock ≠ some gl
theorem DkAt.below {B : Nat} {w w' : World} {g gn gl L cn cl : Nat} {vw : Value} {ns ls : List Value} {W : List (Nat × ByteArray)} {st : Int} {ar : Bool} {le : Int} {off : Bool} (h : DkAt B w g gn gl L cn cl vw ns ls W st ar le off) (hb : Below w.heap.size w w') : DkAt B w' g gn gl L cn cl vw ns ls W st ar le off := by
  have ho : Only (fun _ => False) w w' := Only.of_below hb
  exact ⟨head_only h.head ho fun x => x, own_only h.now ho fun _ _ x => x, own_only h.rows ho fun _ _ x => x, own_only h.own ho fun _ _ x => x, h.ge, h.ne⟩

set_option maxRecDepth 20000 in
theorem of_any (b c N : Nat) (t : ByteArray) (hN : 1 ≤ N) (hN2 : N ≤ 1000) (w : World) (hx : Hid (∀ j, j < N → w.cell? ⟨b, j, none⟩ = some (.string t))) :
    Calls Tryd.prog 45 #[.slice (some ⟨b, 0, none⟩) N c] w fun e w' => ∃ g gn gl cn cl, e = .returned (.pointer (some ⟨g, 0, none⟩)) ∧
      DkAt w.heap.size w' g gn gl N cn cl (.slice none 0 0) (List.replicate N (.string t)) (List.replicate N (.string t)) [] 0 false 0 false ∧ Below w.heap.size w w' := by
  have hz : (List.replicate N t).length = N := List.length_replicate
  have HCl := Lib.hid (fun (W : World) (hb : Below w.heap.size w W) => Tryd.slices_Clone_string b 0 N c (List.replicate N t) W (by rw [hz]; exact Nat.le_refl _) (by omega) (fun j hj => by
    rw [hz] at hj
    rw [Nat.zero_add, show (List.replicate N t).getD j ByteArray.empty = t by simp [List.getD, hj]]
    have hc := hx.out j hj
    rw [show W.cell? ⟨b, j, none⟩ = w.cell? ⟨b, j, none⟩ by unfold World.cell?; rw [hb.block b (World.block_lt_of_cell? w _ hc)]]
    exact hc))
  clear hz
  go_enter Tryd.func45, Tryd.ntmps45
  go_wp2_with fail
  refine (HCl.out w (Below.refl _ _)).mono ?_
  rintro e w1 ⟨v1, rfl, hown1, hnil1, hb1⟩
  have h1 := Lib.hid (And.intro hown1 (And.intro hnil1 hb1))
  clear hown1 hnil1 hb1
  go_wp2_with fail
  refine (HCl.out w1 h1.out.2.2).mono ?_
  rintro e w2 ⟨v2, rfl, hown2, hnil2, hb2⟩
  have h2 := Lib.hid (And.intro hown2 (And.intro hnil2 hb2))
  clear hown2 hnil2 hb2
  obtain ⟨gn, cn, rfl⟩ := own_shape h1.out.1 (by omega)
  obtain ⟨gl, cl, rfl⟩ := own_shape h2.out.1 (by omega)
  go_wp2_with fail
  go_ret
  have a1 := (h1.out.1.lt gn rfl)
  have a2 := (h2.out.1.lt gl rfl)
  have hb12 := h2.out.2.2
  have ho1 : Only (fun _ => False) w1 w2 := Only.of_below hb12
  have hA : ∀ o, Only (fun _ => False) w2 (w2.alloc o) := fun o => (Only.refl _ w2).alloc o
  have hs1 := hb12.size
  have hs0 := h1.out.2.2.size
  have q1 := own_base h1.out.1 (Nat.zero_le _)
  have q2 := own_base h2.out.1 (Nat.zero_le _)
  rw [List.take_of_length_le (by simp), List.map_replicate] at q1 q2
  have r1 := fun o => own_only (own_only q1 ho1 fun _ _ x => x) (hA o) fun _ _ x => x
  have r2 := fun o => own_only q2 (hA o) fun _ _ x => x
  refine ⟨w2.heap.size, gn, gl, cn, cl, rfl, ⟨?_, r1 _, r2 _, World.ownsRow_nil _ _ _ _, ⟨by omega, by omega, by omega, fun k hk => by cases hk⟩, ⟨by omega, by omega, by omega, by simp [Value.ownBlock], by simp [Value.ownBlock], by simp [Value.ownBlock]⟩⟩, ?_⟩
  · exact Array.getElem?_push_size
  · exact (h1.out.2.2.trans (hb12.mono hs0)).alloc (by omega) _

def zeroB : ByteArray := ⟨#[0]⟩
def rep (s : ByteArray) (n : Nat) : ByteArray := ⟨(Lib.repeatL s.data.toList n).toArray⟩
def zeros : ByteArray := rep zeroB 512
theorem rep_any (s : ByteArray) (n : Nat) (k : Int) (hk : (n : Int) = k) (h1 : n ≤ 1000000) (h2 : s.size ≤ 1000) (w : World) : Calls Tryd.prog 44 #[.string s, .int .i64 k] w fun e w' => e = .returned (.string (rep s n)) ∧ Below w.heap.size w w' := by
  subst hk
  have h3 : s.size * n ≤ 1000 * 1000000 := Nat.mul_le_mul h2 h1
  exact Tryd.strings_Repeat s n w (by omega) (by omega)
theorem rep_zeros (w : World) : Calls Tryd.prog 44 #[.string ⟨#[0]⟩, .int .i64 512] w fun e w' => e = .returned (.string zeros) ∧ Below w.heap.size w w' :=
  rep_any zeroB 512 512 rfl (by decide) (by decide) w
set_option maxRecDepth 20000 in
theorem new_gen (z : ByteArray) (hz : ∀ w, Calls Tryd.prog 44 #[.string ⟨#[0]⟩, .int .i64 512] w fun e w' => e = .returned (.string z) ∧ Below w.heap.size w w') (N : Nat) (hN : 1 ≤ N) (hN2 : N ≤ 1000) (w : World) :
    Calls Tryd.prog 23 #[.int .i64 (N : Int)] w fun e w' => ∃ g gn gl cn cl, e = .returned (.tuple #[.pointer (some ⟨g, 0, none⟩), .int .i64 0]) ∧
      DkAt w.heap.size w' g gn gl N cn cl (.slice none 0 0) (List.replicate N (.string z)) (List.replicate N (.string z)) [] 0 false 0 false ∧ Below w.heap.size w w' := by
  have HR := Lib.hid (hz w)
  clear hz
  have HO := Lib.hid (fun (W : World) (b c : Nat) h => of_any b c N z hN hN2 W h)
  have HP := Lib.hid (fun (W : World) (b c : Nat) h => repeat_any b c N z hN hN2 W h)
  have h1 : ¬ ((N : Int) < 1) := by omega
  have h2 : ¬ (65536 < (N : Int)) := by omega
  go_enter Tryd.func23, Tryd.ntmps23
  go_wp2_with fail
  refine HR.out.mono ?_
  rintro e w1 ⟨rfl, hb1⟩
  have hb1' := Lib.hid hb1
  clear hb1
  go_wp2_with fail
  have hal : Below w.heap.size w (w1.alloc (Obj.cells #[Value.string z] 9)) := hb1'.out.alloc hb1'.out.size _
  have hal' := Lib.hid hal
  have hcel : (w1.alloc (Obj.cells #[Value.string z] 9)).cell? ⟨w1.heap.size, 0, none⟩ = some (.string z) := by rw [World.cell?_alloc_mark]; rfl
  refine (HP.out _ _ _ hcel).mono ?_
  rintro e w2 ⟨rfl, hI⟩
  have hI' := Lib.hid hI
  clear hI hal hcel
  go_wp2_with fail
  have hsz : (w1.alloc (Obj.cells #[Value.string z] 9)).heap.size = w1.heap.size + 1 := by simp
  have hrw := hI'.out.row
  rw [hsz] at hrw
  have hcl : Hid (∀ j, j < N → w2.cell? ⟨w1.heap.size + 1, j, none⟩ = some (.string z)) := Lib.hid fun j hj => fill_at w2 (w1.heap.size + 1) N _ _ N _ hrw j hj
  clear hrw hsz
  refine (HO.out w2 (w1.heap.size + 1) N hcl).mono ?_
  rintro e w3 ⟨g, gn, gl, cn, cl, rfl, hD, hb3⟩
  have hF := Lib.hid (And.intro hD hb3)
  clear hD hb3
  go_wp2_with fail
  go_ret2
  have hs := hI'.out.below.size
  have ha := hal'.out.size
  have hb02 : Below w.heap.size w w2 := hal'.out.trans (hI'.out.below.mono ha)
  obtain ⟨hD, hb3⟩ := hF.out
  exact ⟨g, gn, gl, cn, cl, rfl, ⟨hD.head, hD.now, hD.rows, hD.own, ⟨Nat.le_trans hb02.size hD.ge.1, Nat.le_trans hb02.size hD.ge.2.1, Nat.le_trans hb02.size hD.ge.2.2.1, fun k hk => by cases hk⟩, hD.ne⟩, hb02.trans (hb3.mono hb02.size)⟩
theorem new_any (N : Nat) (hN : 1 ≤ N) (hN2 : N ≤ 1000) (w : World) :
    Calls Tryd.prog 23 #[.int .i64 (N : Int)] w fun e w' => ∃ g gn gl cn cl, e = .returned (.tuple #[.pointer (some ⟨g, 0, none⟩), .int .i64 0]) ∧
      DkAt w.heap.size w' g gn gl N cn cl (.slice none 0 0) (List.replicate N (.string zeros)) (List.replicate N (.string zeros)) [] 0 false 0 false ∧ Below w.heap.size w w' := new_gen zeros rep_zeros N hN hN2 w

/-- a sector of a byte, in memory -/
def Sec (w : World) (gb : Nat) (x : Int) : Prop := w.ownsRow 0 5 1 (.slice (some ⟨gb, 0, none⟩) 512 512) 512 (List.replicate 512 (.int .u8 x))
def secS (x : Int) : ByteArray := strOfNums (List.replicate 512 x)
theorem sec_of {w w' : World} {g : Nat} {x : Int} (h : FInv w w' g 5 512 (.int .u8 0) (.int .u8 x) 512) : Sec w' g x := by
  have := own_base h.row (Nat.zero_le _)
  rw [fillTo_all] at this
  exact this
theorem rep_getD (n i : Nat) (x : Int) (hi : i < n) : (List.replicate n x).getD i 0 = x := by
  rw [List.getD_eq_getElem?_getD, List.getElem?_replicate, if_pos hi]
  rfl
theorem row_conv {w : World} {gb n : Nat} {x : Int} (h : w.ownsRow 0 5 1 (.slice (some ⟨gb, 0, none⟩) n n) n (List.replicate n (.int .u8 x))) : (convert 34 9 (.slice (some ⟨gb, 0, none⟩) n n)).run Tryd.prog w = .ok (.string (strOfNums (List.replicate n x))) w :=
  run_convert_bytes_arg (P := Tryd.prog) w 34 5 Tryd.underlying34 Tryd.underlying5 gb 0 n n (List.replicate n x) List.length_replicate (fun i hi => by
    have hc := World.ownsRow.cellAt h i (by omega)
    rw [Nat.zero_add, hc, List.getElem?_replicate, if_pos hi, rep_getD n i x hi]) 9 Tryd.underlying9
theorem sec_conv {w : World} {gb : Nat} {x : Int} (h : Sec w gb x) : (convert 34 9 (.slice (some ⟨gb, 0, none⟩) 512 512)).run Tryd.prog w = .ok (.string (secS x)) w := row_conv h

section
variable {B : Nat} {w : World} {g gn gl L cn cl : Nat} {vw : Value} {ns ls : List Value} {W : List (Nat × ByteArray)} {st : Int} {ar : Bool} {le : Int} {off : Bool}
theorem dk_size (h : DkAt B w g gn gl L cn cl vw ns ls W st ar le off) : B ≤ w.heap.size := Nat.le_trans h.ge.1 (Nat.le_of_lt (head_lt h.head))
theorem wcells_snoc (W : List (Nat × ByteArray)) (n : Nat) (s : ByteArray) : wcells W ++ [Value.int .i64 (n : Int), Value.string s] = wcells (W ++ [(n, s)]) := by simp [wcells]
theorem dk_head {w' : World} {st' : Int} {ar' : Bool} {le' : Int} {off' : Bool} (h : DkAt B w g gn gl L cn cl vw ns ls W st ar le off)
    (hh : Head w' g (.slice (some ⟨gn, 0, none⟩) L cn) (.slice (some ⟨gl, 0, none⟩) L cl) vw st' ar' le' off') (ho : Only (· = g) w w') : DkAt B w' g gn gl L cn cl vw ns ls W st' ar' le' off' ∧ Below B w w' :=
  ⟨⟨hh, own_only h.now ho fun k hk e => by cases hk; exact h.ne.1 e, own_only h.rows ho fun k hk e => by cases hk; exact h.ne.2.1 e, own_only h.own ho fun k hk e => h.ne.2.2.2.1 (by rw [hk, e]), h.ge, h.ne⟩,
    ho.below (fun k e => e ▸ h.ge.1) (dk_size h)⟩

theorem dk_write (le' : Int) (hle : (if ar = true then le - 1 else le) = le') (i : Int) (n : Nat) (hni : (n : Int) = i) (h : DkAt B w g gn gl L cn cl vw ns ls W st ar le false) (hn : n < L) (gb : Nat) (x : Int) (hs : Sec w gb x) (hgb : gb ≠ g) (hm : W.length ≤ 1000000) (h0 : 0 ≤ le) (h1 : le ≤ 9223372036854775807) (h2 : 0 ≤ st) (h3 : st ≤ 1000000000) (hd : ¬ (ar = true ∧ le = 0)) :
    Calls Tryd.prog 27 #[.pointer (some ⟨g, 0, none⟩), .int .i64 i, .slice (some ⟨gb, 0, none⟩) 512 512] w fun e w' => e = .returned (.int .i64 0) ∧
      (∃ gw cw, DkAt B w' g gn gl L cn cl (.slice (some ⟨gw, 0, none⟩) (W.length + 1) cw) (ns.set n (.string (secS x))) ls (W ++ [(n, secS x)]) (st + 1) ar le' false) ∧ Below B w w' := by
  subst hni
  subst hle
  refine (write_ok g _ _ vw st ar le w _ rfl W.length (wcells W) hm (Lib.hid h.own) (Lib.hid h.ne.2.2.2.1) gn L cn ns n hn (some ⟨gb, 0, none⟩) 512 (secS x) h0 h1 h2 h3 rfl (Lib.hid h.now) (Lib.hid ⟨h.ne.1, h.ne.2.2.2.2.1⟩) (Lib.hid h.head) hd (Lib.hid fun V hV => sec_conv (own_only hs hV fun k hk e => hgb (by cases hk; exact e)))).mono ?_
  rintro e w' ⟨rfl, gw, cw, a1, a2, a3, a4, a5, a6, a7⟩
  have hB := dk_size h
  have r3 := own_only h.rows a7 fun k hk e => by
    cases hk
    rcases e with e | e | e
    · exact h.ne.2.1 e
    · exact h.ne.2.2.2.2.2 e
    · exact h.ne.2.2.1 e.symm
  have hgl : gw ≠ gl := fun e => by
    obtain ⟨cur, hq⟩ := own_type a2
    obtain ⟨cur', hq'⟩ := own_type r3
    rw [e, hq'] at hq
    exact absurd hq (by simp)
  have hge : B ≤ gw := a4.elim (fun e => h.ge.2.2.2 _ e) (fun e => Nat.le_trans hB e)
  refine ⟨rfl, ⟨gw, cw, a1, a3, r3, ?_, ⟨h.ge.1, h.ge.2.1, h.ge.2.2.1, fun k hk => by cases hk; exact hge⟩, ⟨h.ne.1, h.ne.2.1, h.ne.2.2.1, fun e => a5 (by cases e; rfl), fun e => a6 (by cases e; rfl), fun e => hgl (by cases e; rfl)⟩⟩, ?_⟩
  · rw [wcells_snoc] at a2
    rw [List.length_append]
    exact a2
  · refine a7.below (fun k e => ?_) hB
    rcases e with e | e | e
    · exact e ▸ h.ge.1
    · exact h.ge.2.2.2 _ e
    · exact e ▸ h.ge.2.1
theorem vw_shape (h : w.ownsRow 0 95 2 vw W.length (wcells W)) : ∃ ao cw, vw = .slice ao W.length cw := by
  rcases h.2 with ⟨e, h0⟩ | ⟨gw, cap, cur, e, _⟩
  · exact ⟨none, 0, by rw [e, h0]⟩
  · exact ⟨_, cap, e⟩
theorem dk_barrier (le' : Int) (hle : (if ar = true then le - 1 else le) = le') (h : DkAt B w g gn gl L cn cl vw ns ls W st ar le false) (hin : ∀ x ∈ W, x.1 < L) (hm : W.length ≤ 1000000) (h0 : 0 ≤ le) (h1 : le ≤ 9223372036854775807) (h2 : 0 ≤ st) (h3 : st ≤ 1000000000) (hd : ¬ (ar = true ∧ le = 0)) :
    Calls Tryd.prog 28 #[.pointer (some ⟨g, 0, none⟩)] w fun e w' => e = .returned (.int .i64 0) ∧
      DkAt B w' g gn gl L cn cl (.slice none 0 0) ns (setAll ls W) [] (st + 1) ar le' false ∧ Below B w w' := by
  subst hle
  obtain ⟨ao, cw, rfl⟩ := vw_shape h.own
  refine (barrier_ok g _ st ar le w _ rfl ao cw W W.length rfl hm gl L cl ls (Lib.hid h.own) (Lib.hid ⟨h.ne.2.2.2.1, h.ne.2.2.2.2.2, h.ne.2.1⟩) (Lib.hid hin) (Lib.hid h.rows) h0 h1 h2 h3 (Lib.hid h.head) hd).mono ?_
  rintro e w' ⟨rfl, a1, a2, a3⟩
  refine ⟨rfl, ⟨a1, own_only h.now a3 fun k hk e => ?_, a2, World.ownsRow_nil _ _ _ _, ⟨h.ge.1, h.ge.2.1, h.ge.2.2.1, fun k hk => by cases hk⟩, ⟨h.ne.1, h.ne.2.1, h.ne.2.2.1, by simp [Value.ownBlock], by simp [Value.ownBlock], by simp [Value.ownBlock]⟩⟩, a3.below (fun k e => ?_) (dk_size h)⟩
  · cases hk
    rcases e with e | e
    · exact h.ne.1 e
    · exact h.ne.2.2.1 e
  · rcases e with e | e
    · exact e ▸ h.ge.1
    · exact e ▸ h.ge.2.2.1
theorem dk_crash (h : DkAt B w g gn gl L cn cl vw ns ls W st ar le off) (hls : AllStr ls) (hin : ∀ x ∈ W, x.1 < L) (hm : W.length ≤ 1000000) (sp : Option Addr) (P cp : Nat) (pk : Nat → Int)
    (hpk : ∀ W', Only (· = gl) w W' → ∀ i, i < P → ∃ g' o, sp = some ⟨g', o, none⟩ ∧ W'.cell? ⟨g', o + i, none⟩ = some (.int .i64 (pk i))) :
    Calls Tryd.prog 30 #[.pointer (some ⟨g, 0, none⟩), .slice sp P cp] w fun e w' => e = .returned (.tuple #[]) ∧
      DkAt B w' g gn gl L cn cl (.slice none 0 0) (nowTo ns (pickTo ls W (fun i => decide (i < P) && od (pk i)) W.length) W W.length) (pickTo ls W (fun i => decide (i < P) && od (pk i)) W.length) [] st false 0 false ∧ Below B w w' := by
  obtain ⟨ao, cw, rfl⟩ := vw_shape h.own
  refine (crash_any g st ar le off w ao cw W W.length rfl hm gl gn L cl cn ls ns (Lib.hid hls) (Lib.hid h.own) (Lib.hid ⟨h.ne.2.2.2.1, h.ne.2.2.2.2.2, h.ne.2.1, h.ne.2.2.2.2.1, h.ne.1, h.ne.2.2.1⟩) (Lib.hid hin) (Lib.hid h.rows) (Lib.hid h.now) sp P cp pk (Lib.hid hpk) (Lib.hid h.head)).mono ?_
  rintro e w' ⟨rfl, a1, a2, a3, a4⟩
  refine ⟨rfl, ⟨a1, a3, a2, World.ownsRow_nil _ _ _ _, ⟨h.ge.1, h.ge.2.1, h.ge.2.2.1, fun k hk => by cases hk⟩, ⟨h.ne.1, h.ne.2.1, h.ne.2.2.1, by simp [Value.ownBlock], by simp [Value.ownBlock], by simp [Value.ownBlock]⟩⟩, a4.below (fun k e => ?_) (dk_size h)⟩
  rcases e with e | e | e
  · exact e ▸ h.ge.1
  · exact e ▸ h.ge.2.2.1
  · exact e ▸ h.ge.2.1
end

theorem secS_size (x : Int) : (secS x).size = 512 := by unfold secS; rw [strOfNums_size, List.length_replicate]
theorem secS_get (k : Int) (x : Nat) (hk : (x : Int) = k) (hx : x < 256) (j : Nat) (hj : j < 512) : ((secS k).data.toList.getD j 0).toNat = x := by
  subst hk
  unfold secS
  rw [strOfNums_data, List.map_replicate, List.getD_eq_getElem?_getD, List.getElem?_replicate, if_pos hj]
  simp
  omega
theorem allStr_rep (n : Nat) (s : ByteArray) : AllStr (List.replicate n (.string s)) := fun _ hv => ⟨s, (List.mem_replicate.1 hv).2⟩
theorem setAll_str {ys : List Value} (h : AllStr ys) (W : List (Nat × ByteArray)) : AllStr (setAll ys W) := by
  unfold setAll
  induction W generalizing ys with
  | nil => exact h
  | cons x t ih => exact ih (allStr_set h _ _)
theorem lasts_now (v u : Value) (s2 s3 : ByteArray) : nowTo [v] (pickTo [u] [(0, s2), (0, s3)] (fun i => decide (i < 1) && od 1) 2) [(0, s2), (0, s3)] 2 = [.string s2] := by
  have h0 : od 1 = true := by decide
  simp [nowTo, pickTo, h0]
theorem one_of {l : List Value} (h : l.length = 1) : ∃ v, l = [v] := by
  match l, h with
  | [v], _ => exact ⟨v, rfl⟩
open Go.ChangeShapes Go.WideShapes Go.Deep

theorem open_boolz {H : Type} {enc : TypeId × Value → H} {P : Program} {w : World} {base : Nat} {held : Bool} {t e : TypeId} {fuel : Nat} {cs : List Value} {x : DataW H × List MemPlace} (ht : P.underlying t = some (.slice e)) (he : P.underlying e = some .bool) (hc : P.cellsOf e = 1)
    (h : DataW.trod enc P w base (fun _ => true) held fuel t cs = some x) :
    (cs = [.slice none 0 0] ∧ x = (.nil, [])) ∨
    ∃ (a : Addr) (len cap : Nat) (zs : List Bool), cs = [.slice (some a) len cap] ∧ base ≤ a.block ∧ len ≤ cap ∧ cap ≤ maxLen ∧ zs.length = cap ∧ True ∧ (∀ i, i < zs.length → w.cell? (a.add i) = some (.bool (zs.getD i false))) ∧ True := by
  rcases open_bools ht he hc h with h0 | ⟨a, len, cap, B, hcs, hb, hl, hm, _, hcell⟩
  · exact .inl h0
  · refine .inr ⟨a, len, cap, (List.range cap).map B, hcs, hb, hl, hm, by simp, trivial, fun i hi => ?_, trivial⟩
    have hi' : i < cap := by simpa using hi
    rw [hcell i hi']
    simp [List.getD, hi']

theorem setAll_add (ls : List Value) (W : List (Nat × ByteArray)) (n : Nat) (s : ByteArray) : setAll ls (W ++ [(n, s)]) = (setAll ls W).set n (.string s) := by
  unfold setAll; rw [List.foldl_append]; rfl
theorem setAll_none (ls : List Value) (W : List (Nat × ByteArray)) (n : Nat) (h : ∀ x ∈ W, x.1 ≠ n) : (setAll ls W)[n]? = ls[n]? := by
  unfold setAll
  induction W generalizing ls with
  | nil => rfl
  | cons x t ih =>
    rw [List.foldl_cons, ih _ fun y hy => h y (List.mem_cons_of_mem _ hy), List.getElem?_set_ne (h x (List.mem_cons_self ..))]
theorem pickTo_none (ls : List Value) (W : List (Nat × ByteArray)) (f : Nat → Bool) (n : Nat) : ∀ k, (∀ j, j < k → (W.getD j (0, ByteArray.empty)).1 ≠ n) → (pickTo ls W f k)[n]? = ls[n]?
  | 0, _ => rfl
  | k + 1, h => by
    have ih := pickTo_none ls W f n k fun j hj => h j (by omega)
    unfold pickTo
    split
    · rw [List.getElem?_set_ne (h k (by omega)), ih]
    · exact ih
theorem nowTo_none (ns ls : List Value) (W : List (Nat × ByteArray)) (n : Nat) : ∀ k, (∀ j, j < k → (W.getD j (0, ByteArray.empty)).1 ≠ n) → (nowTo ns ls W k)[n]? = ns[n]?
  | 0, _ => rfl
  | k + 1, h => by
    have ih := nowTo_none ns ls W n k fun j hj => h j (by omega)
    unfold nowTo
    rw [List.getElem?_set_ne (h k (by omega)), ih]
theorem nowTo_some (ns ls : List Value) (W : List (Nat × ByteArray)) (n : Nat) (hn : n < ns.length) (hl : n < ls.length) : ∀ k, (∃ j, j < k ∧ (W.getD j (0, ByteArray.empty)).1 = n) → (nowTo ns ls W k)[n]? = ls[n]?
  | 0, h => by obtain ⟨j, hj, _⟩ := h; omega
  | k + 1, h => by
    unfold nowTo
    by_cases e : (W.getD k (0, ByteArray.empty)).1 = n
    · rw [e, List.getElem?_set_self (by rw [nowTo_len]; exact hn), List.getElem?_eq_getElem hl]
      simp [List.getD, hl]
    · rw [List.getElem?_set_ne e]
      obtain ⟨j, hj, h2⟩ := h
      exact nowTo_some ns ls W n hn hl k ⟨j, by rcases Nat.lt_succ_iff_lt_or_eq.1 hj with h' | h'; exact h'; rw [h'] at h2; exact absurd h2 e, h2⟩
theorem pickTo_get (ls : List Value) (W : List (Nat × ByteArray)) (f : Nat → Bool) (n : Nat) (hn : n < ls.length) : ∀ k, (pickTo ls W f k)[n]? = ls[n]? ∨ ∃ j, j < k ∧ (W.getD j (0, ByteArray.empty)).1 = n ∧ (pickTo ls W f k)[n]? = some (.string (W.getD j (0, ByteArray.empty)).2)
  | 0 => .inl rfl
  | k + 1 => by
    have ih : (pickTo ls W f k)[n]? = ls[n]? ∨ ∃ j, j < k + 1 ∧ (W.getD j (0, ByteArray.empty)).1 = n ∧ (pickTo ls W f k)[n]? = some (.string (W.getD j (0, ByteArray.empty)).2) := (pickTo_get ls W f n hn k).imp id fun ⟨j, a, b⟩ => ⟨j, by omega, b⟩
    by_cases hf : f k = true
    · have e : pickTo ls W f (k + 1) = (pickTo ls W f k).set (W.getD k (0, ByteArray.empty)).1 (.string (W.getD k (0, ByteArray.empty)).2) := by
        show (if f k = true then _ else _) = _
        rw [if_pos hf]
      rw [e]
      by_cases h : (W.getD k (0, ByteArray.empty)).1 = n
      · exact .inr ⟨k, by omega, h, by rw [h, List.getElem?_set_self (by rw [pickTo_len]; exact hn)]⟩
      · rw [List.getElem?_set_ne h]; exact ih
    · have e : pickTo ls W f (k + 1) = pickTo ls W f k := by
        show (if f k = true then _ else _) = _
        rw [if_neg hf]
      rw [e]; exact ih
/-- behind a crash: what lasted, or one of the writes -/
theorem keep_get (ls : List Value) (W : List (Nat × ByteArray)) (f : Nat → Bool) (n : Nat) (hn : n < ls.length) : (nowTo (setAll ls W) (pickTo ls W f W.length) W W.length)[n]? = ls[n]? ∨
    ∃ j, j < W.length ∧ (W.getD j (0, ByteArray.empty)).1 = n ∧ (nowTo (setAll ls W) (pickTo ls W f W.length) W W.length)[n]? = some (.string (W.getD j (0, ByteArray.empty)).2) := by
  by_cases h : ∃ j, j < W.length ∧ (W.getD j (0, ByteArray.empty)).1 = n
  · rw [nowTo_some _ _ W n (by rw [setAll_len]; exact hn) (by rw [pickTo_len]; exact hn) _ h]
    exact pickTo_get ls W f n hn _
  · refine .inl ?_
    rw [nowTo_none _ _ W n _ fun j hj e => h ⟨j, hj, e⟩]
    refine setAll_none ls W n fun x hx e => ?_
    obtain ⟨j, hj, hxj⟩ := List.getElem_of_mem hx
    exact h ⟨j, hj, by simp [List.getD, hj, hxj, e]⟩
theorem repeatL_flat : ∀ (c : Nat), (Lib.repeatL [0] c : List UInt8) = List.replicate c 0
  | 0 => rfl
  | c + 1 => by
    have := repeatL_flat c
    simp [Lib.repeatL, List.replicate_succ] at this ⊢
    exact this
theorem zeros_sec : zeros = secS 0 := by
  apply ByteArray.ext
  apply Array.toList_inj.1
  have h1 : zeros.data.toList = Lib.repeatL [0] 512 := rfl
  have h2 : (secS 0).data.toList = List.replicate 512 0 := by
    unfold secS
    rw [strOfNums_data, List.map_replicate]
    rfl
  rw [h1, h2, repeatL_flat]

/-- beside the disk -/
def Side (w : World) (q g gn gl : Nat) (vw : Value) : Prop := q ≠ g ∧ q ≠ gn ∧ q ≠ gl ∧ vw.ownBlock ≠ some q ∧ q < w.heap.size
section
variable {B : Nat} {w : World} {g gn gl L cn cl : Nat} {vw : Value} {ns ls : List Value} {W : List (Nat × ByteArray)} {st : Int} {ar : Bool} {le : Int} {off : Bool}
theorem dk_write2 (le' : Int) (hle : (if ar = true then le - 1 else le) = le') (i : Int) (n : Nat) (hni : (n : Int) = i) (h : DkAt B w g gn gl L cn cl vw ns ls W st ar le false) (hn : n < L) (gb : Nat) (x : Int) (hs : Sec w gb x) (hgb : gb ≠ g) (hm : W.length ≤ 1000000) (h0 : 0 ≤ le) (h1 : le ≤ 9223372036854775807) (h2 : 0 ≤ st) (h3 : st ≤ 1000000000) (hd : ¬ (ar = true ∧ le = 0)) :
    Calls Tryd.prog 27 #[.pointer (some ⟨g, 0, none⟩), .int .i64 i, .slice (some ⟨gb, 0, none⟩) 512 512] w fun e w' => e = .returned (.int .i64 0) ∧
      ∃ gw cw, DkAt B w' g gn gl L cn cl (.slice (some ⟨gw, 0, none⟩) (W.length + 1) cw) (ns.set n (.string (secS x))) ls (W ++ [(n, secS x)]) (st + 1) ar le' false ∧ Below B w w' ∧ ∀ q, Side w q g gn gl vw → Side w' q g gn gl (.slice (some ⟨gw, 0, none⟩) (W.length + 1) cw) ∧ w'.heap[q]? = w.heap[q]? := by
  subst hni
  subst hle
  refine (write_ok g _ _ vw st ar le w _ rfl W.length (wcells W) hm (Lib.hid h.own) (Lib.hid h.ne.2.2.2.1) gn L cn ns n hn (some ⟨gb, 0, none⟩) 512 (secS x) h0 h1 h2 h3 rfl (Lib.hid h.now) (Lib.hid ⟨h.ne.1, h.ne.2.2.2.2.1⟩) (Lib.hid h.head) hd (Lib.hid fun V hV => sec_conv (own_only hs hV fun k hk e => hgb (by cases hk; exact e)))).mono ?_
  rintro e w' ⟨rfl, gw, cw, a1, a2, a3, a4, a5, a6, a7⟩
  have hB := dk_size h
  have r3 := own_only h.rows a7 fun k hk e => by
    cases hk
    rcases e with e | e | e
    · exact h.ne.2.1 e
    · exact h.ne.2.2.2.2.2 e
    · exact h.ne.2.2.1 e.symm
  have hgl : gw ≠ gl := fun e => by
    obtain ⟨cur, hq⟩ := own_type a2
    obtain ⟨cur', hq'⟩ := own_type r3
    rw [e, hq'] at hq
    exact absurd hq (by simp)
  have hge : B ≤ gw := a4.elim (fun e => h.ge.2.2.2 _ e) (fun e => Nat.le_trans hB e)
  refine ⟨rfl, gw, cw, ⟨a1, a3, r3, ?_, ⟨h.ge.1, h.ge.2.1, h.ge.2.2.1, fun k hk => by cases hk; exact hge⟩, ⟨h.ne.1, h.ne.2.1, h.ne.2.2.1, fun e => a5 (by cases e; rfl), fun e => a6 (by cases e; rfl), fun e => hgl (by cases e; rfl)⟩⟩, ?_, fun q hq => ⟨⟨hq.1, hq.2.1, hq.2.2.1, fun e => ?_, Nat.lt_of_lt_of_le hq.2.2.2.2 a7.size⟩, a7.block q hq.2.2.2.2 fun e => ?_⟩⟩
  · rw [wcells_snoc] at a2
    rw [List.length_append]
    exact a2
  · refine a7.below (fun k e => ?_) hB
    rcases e with e | e | e
    · exact e ▸ h.ge.1
    · exact h.ge.2.2.2 _ e
    · exact e ▸ h.ge.2.1
  · cases e
    rcases a4 with e | e
    · exact hq.2.2.2.1 e
    · exact absurd hq.2.2.2.2 (Nat.not_lt.2 e)
  · rcases e with e | e | e
    · exact hq.1 e
    · exact hq.2.2.2.1 e
    · exact hq.2.1 e
theorem dk_barrier2 (le' : Int) (hle : (if ar = true then le - 1 else le) = le') (h : DkAt B w g gn gl L cn cl vw ns ls W st ar le false) (hin : ∀ x ∈ W, x.1 < L) (hm : W.length ≤ 1000000) (h0 : 0 ≤ le) (h1 : le ≤ 9223372036854775807) (h2 : 0 ≤ st) (h3 : st ≤ 1000000000) (hd : ¬ (ar = true ∧ le = 0)) :
    Calls Tryd.prog 28 #[.pointer (some ⟨g, 0, none⟩)] w fun e w' => e = .returned (.int .i64 0) ∧
      DkAt B w' g gn gl L cn cl (.slice none 0 0) ns (setAll ls W) [] (st + 1) ar le' false ∧ Below B w w' ∧ ∀ q, Side w q g gn gl vw → Side w' q g gn gl (.slice none 0 0) ∧ w'.heap[q]? = w.heap[q]? := by
  subst hle
  obtain ⟨ao, cw, rfl⟩ := vw_shape h.own
  refine (barrier_ok g _ st ar le w _ rfl ao cw W W.length rfl hm gl L cl ls (Lib.hid h.own) (Lib.hid ⟨h.ne.2.2.2.1, h.ne.2.2.2.2.2, h.ne.2.1⟩) (Lib.hid hin) (Lib.hid h.rows) h0 h1 h2 h3 (Lib.hid h.head) hd).mono ?_
  rintro e w' ⟨rfl, a1, a2, a3⟩
  refine ⟨rfl, ⟨a1, own_only h.now a3 fun k hk e => ?_, a2, World.ownsRow_nil _ _ _ _, ⟨h.ge.1, h.ge.2.1, h.ge.2.2.1, fun k hk => by cases hk⟩, ⟨h.ne.1, h.ne.2.1, h.ne.2.2.1, by simp [Value.ownBlock], by simp [Value.ownBlock], by simp [Value.ownBlock]⟩⟩, a3.below (fun k e => ?_) (dk_size h), fun q hq => ⟨⟨hq.1, hq.2.1, hq.2.2.1, by simp [Value.ownBlock], Nat.lt_of_lt_of_le hq.2.2.2.2 a3.size⟩, a3.block q hq.2.2.2.2 fun e => ?_⟩⟩
  · cases hk
    rcases e with e | e
    · exact h.ne.1 e
    · exact h.ne.2.2.1 e
  · rcases e with e | e
    · exact e ▸ h.ge.1
    · exact e ▸ h.ge.2.2.1
  · rcases e with e | e
    · exact hq.1 e
    · exact hq.2.2.1 e
theorem dk_crash2 (h : DkAt B w g gn gl L cn cl vw ns ls W st ar le off) (hls : AllStr ls) (hin : ∀ x ∈ W, x.1 < L) (hm : W.length ≤ 1000000) (sp : Option Addr) (P cp : Nat) (pk : Nat → Int)
    (hpk : ∀ W', Only (· = gl) w W' → ∀ i, i < P → ∃ g' o, sp = some ⟨g', o, none⟩ ∧ W'.cell? ⟨g', o + i, none⟩ = some (.int .i64 (pk i))) :
    Calls Tryd.prog 30 #[.pointer (some ⟨g, 0, none⟩), .slice sp P cp] w fun e w' => e = .returned (.tuple #[]) ∧
      DkAt B w' g gn gl L cn cl (.slice none 0 0) (nowTo ns (pickTo ls W (fun i => decide (i < P) && od (pk i)) W.length) W W.length) (pickTo ls W (fun i => decide (i < P) && od (pk i)) W.length) [] st false 0 false ∧ Below B w w' ∧ ∀ q, Side w q g gn gl vw → Side w' q g gn gl (.slice none 0 0) ∧ w'.heap[q]? = w.heap[q]? := by
  obtain ⟨ao, cw, rfl⟩ := vw_shape h.own
  refine (crash_any g st ar le off w ao cw W W.length rfl hm gl gn L cl cn ls ns (Lib.hid hls) (Lib.hid h.own) (Lib.hid ⟨h.ne.2.2.2.1, h.ne.2.2.2.2.2, h.ne.2.1, h.ne.2.2.2.2.1, h.ne.1, h.ne.2.2.1⟩) (Lib.hid hin) (Lib.hid h.rows) (Lib.hid h.now) sp P cp pk (Lib.hid hpk) (Lib.hid h.head)).mono ?_
  rintro e w' ⟨rfl, a1, a2, a3, a4⟩
  refine ⟨rfl, ⟨a1, a3, a2, World.ownsRow_nil _ _ _ _, ⟨h.ge.1, h.ge.2.1, h.ge.2.2.1, fun k hk => by cases hk⟩, ⟨h.ne.1, h.ne.2.1, h.ne.2.2.1, by simp [Value.ownBlock], by simp [Value.ownBlock], by simp [Value.ownBlock]⟩⟩, a4.below (fun k e => ?_) (dk_size h), fun q hq => ⟨⟨hq.1, hq.2.1, hq.2.2.1, by simp [Value.ownBlock], Nat.lt_of_lt_of_le hq.2.2.2.2 a4.size⟩, a4.block q hq.2.2.2.2 fun e => ?_⟩⟩
  · rcases e with e | e | e
    · exact e ▸ h.ge.1
    · exact e ▸ h.ge.2.2.1
    · exact e ▸ h.ge.2.1
  · rcases e with e | e | e
    · exact hq.1 e
    · exact hq.2.2.1 e
    · exact hq.2.1 e
end

def textsOf (f : Nat → Nat) : List Value := (List.range 8).map fun n => Value.string (secS (f n : Int))
def bytesOf8 (f : Nat → Nat) : List Value := (List.range 8).map fun n => Value.int .u8 (f n : Int)
def upd (f : Nat → Nat) (n x : Nat) : Nat → Nat := fun m => if m = n then x else f m
theorem map_upd (h : Nat → Value) (n : Nat) (v : Value) : ((List.range 8).map h).set n v = (List.range 8).map (fun m => if m = n then v else h m) := by
  apply List.ext_getElem (by simp)
  intro i h1 h2
  simp only [List.getElem_set, List.getElem_map, List.getElem_range]
  by_cases e : n = i
  · simp [e]
  · simp [e, Ne.symm e]
theorem texts_upd (f : Nat → Nat) (n x : Nat) : (textsOf f).set n (.string (secS (x : Int))) = textsOf (upd f n x) := by
  unfold textsOf
  rw [map_upd]
  refine List.map_congr_left fun m _ => ?_
  unfold upd
  split <;> rfl
theorem bytes_upd (f : Nat → Nat) (n x : Nat) : (bytesOf8 f).set n (.int .u8 (x : Int)) = bytesOf8 (upd f n x) := by
  unfold bytesOf8
  rw [map_upd]
  refine List.map_congr_left fun m _ => ?_
  unfold upd
  split <;> rfl
def WasAt (w : World) (q : Nat) (f : Nat → Nat) : Prop := ∃ T, w.heap[q]? = some (.cells (bytesOf8 f).toArray T (0, 0))
theorem was_cell {w : World} {q : Nat} {f : Nat → Nat} (h : WasAt w q f) (n : Nat) (hn : n < 8) : w.cell? ⟨q, n, none⟩ = some (.int .u8 (f n : Int)) := by
  obtain ⟨T, h⟩ := h
  have e : w.cell? ⟨q, n, none⟩ = (bytesOf8 f).toArray[n]? := by simp [World.cell?, h]
  rw [e]
  simp [bytesOf8, hn]
theorem was_free {w : World} {q : Nat} {f : Nat → Nat} (h : WasAt w q f) (n : Nat) : w.frozen? ⟨q, n, none⟩ = false := by
  obtain ⟨T, h⟩ := h
  simp [World.frozen?, h]
theorem was_set {w : World} {q : Nat} {f : Nat → Nat} (h : WasAt w q f) (n x : Nat) : WasAt (w.setCell ⟨q, n, none⟩ (.int .u8 (x : Int))) q (upd f n x) := by
  obtain ⟨T, h⟩ := h
  refine ⟨T, ?_⟩
  rw [← bytes_upd]
  simp [World.setCell, Array.getElem?_modify, h]
theorem was_same {w w' : World} {q : Nat} {f : Nat → Nat} (h : WasAt w q f) (e : w'.heap[q]? = w.heap[q]?) : WasAt w' q f := by
  obtain ⟨T, h⟩ := h
  exact ⟨T, e.trans h⟩
theorem side_below {w w' : World} {q g gn gl : Nat} {vw : Value} (h : Side w q g gn gl vw) (hb : Below w.heap.size w w') : Side w' q g gn gl vw ∧ w'.heap[q]? = w.heap[q]? :=
  ⟨⟨h.1, h.2.1, h.2.2.1, h.2.2.2.1, Nat.lt_of_lt_of_le h.2.2.2.2 hb.size⟩, hb.block q h.2.2.2.2⟩
theorem side_set {B : Nat} {w : World} {q g gn gl L cn cl : Nat} {vw : Value} {ns ls : List Value} {W : List (Nat × ByteArray)} {st : Int} {ar : Bool} {le : Int} {off : Bool} (hs : Side w q g gn gl vw) (h : DkAt B w g gn gl L cn cl vw ns ls W st ar le off) (n : Nat) (u : Value) :
    DkAt B (w.setCell ⟨q, n, none⟩ u) g gn gl L cn cl vw ns ls W st ar le off ∧ Side (w.setCell ⟨q, n, none⟩ u) q g gn gl vw := by
  have ho : Only (· = q) w (w.setCell ⟨q, n, none⟩ u) := only_set (Only.refl _ w) n u
  exact ⟨⟨head_only h.head ho fun e => hs.1 e.symm, own_only h.now ho fun k hk e => by cases hk; exact hs.2.1 e.symm, own_only h.rows ho fun k hk e => by cases hk; exact hs.2.2.1 e.symm, own_only h.own ho fun k hk e => hs.2.2.2.1 (by rw [hk, e]), h.ge, h.ne⟩,
    ⟨hs.1, hs.2.1, hs.2.2.1, hs.2.2.2.1, Nat.lt_of_lt_of_le hs.2.2.2.2 ho.size⟩⟩
/-- the writes behind the barrier -/
def W2 (mo : Nat → Nat) (k : Nat) : List (Nat × ByteArray) := (List.range k).map fun j => (j * 3 % 8, secS (mo j : Int))
theorem W2_len (mo : Nat → Nat) (k : Nat) : (W2 mo k).length = k := by simp [W2]
theorem W2_snoc (mo : Nat → Nat) (k : Nat) : W2 mo k ++ [(k * 3 % 8, secS (mo k : Int))] = W2 mo (k + 1) := by simp [W2, List.range_succ]
theorem W2_lt (mo : Nat → Nat) (k : Nat) : ∀ x ∈ W2 mo k, x.1 < 8 := by
  intro x hx
  obtain ⟨j, _, rfl⟩ := List.mem_map.1 hx
  exact Nat.mod_lt _ (by decide)
theorem W2_get (mo : Nat → Nat) (k j : Nat) (hj : j < k) : (W2 mo k).getD j (0, ByteArray.empty) = (j * 3 % 8, secS (mo j : Int)) := by simp [W2, List.getD, hj]

structure K1 (w wr : World) (g gn gl cn cl q k : Nat) : Prop where
  all : ∃ vw W f, DkAt w.heap.size wr g gn gl 8 cn cl vw (textsOf f) (textsOf fun _ => 0) W (k : Int) false 0 false ∧ setAll (textsOf fun _ => 0) W = textsOf f ∧ (∀ x ∈ W, x.1 < 8) ∧ W.length ≤ k ∧ Side wr q g gn gl vw ∧ WasAt wr q f ∧ ∀ n, f n < 256
  below : Below w.heap.size w wr
structure K2 (w wr : World) (g gn gl cn cl q : Nat) (f mo : Nat → Nat) (k : Nat) : Prop where
  all : ∃ vw st, DkAt w.heap.size wr g gn gl 8 cn cl vw (setAll (textsOf f) (W2 mo k)) (textsOf f) (W2 mo k) st false 0 false ∧ 0 ≤ st ∧ st ≤ 41 + (k : Int) ∧ Side wr q g gn gl vw
  was : WasAt wr q f
  below : Below w.heap.size w wr
theorem zeros_texts : List.replicate 8 (Value.string zeros) = textsOf fun _ => 0 := by
  rw [zeros_sec]
  rfl
theorem keep_fin (f mo : Nat → Nat) (k : Nat) (F : Nat → Bool) (hf : ∀ n, f n < 256) (hmo : ∀ n, mo n < 256) (n : Nat) (hn : n < 8) :
    ∃ x : Nat, x < 256 ∧ (nowTo (setAll (textsOf f) (W2 mo k)) (pickTo (textsOf f) (W2 mo k) F (W2 mo k).length) (W2 mo k) (W2 mo k).length)[n]? = some (.string (secS (x : Int))) ∧ (x = f n ∨ ∃ j, j < k ∧ j * 3 % 8 = n ∧ mo j = x) := by
  rcases keep_get (textsOf f) (W2 mo k) F n (by simp [textsOf]; exact hn) with h | ⟨j, hj, h1, h2⟩
  · exact ⟨f n, hf n, by rw [h]; simp [textsOf, hn], .inl rfl⟩
  · rw [W2_len] at hj
    rw [W2_get mo k j hj] at h1 h2
    exact ⟨mo j, hmo j, h2, .inr ⟨j, hj, h1, rfl⟩⟩
theorem allStr_texts (f : Nat → Nat) : AllStr (textsOf f) := by
  intro v hv
  obtain ⟨n, _, rfl⟩ := List.mem_map.1 hv
  exact ⟨_, rfl⟩
def mayOf (f mo : Nat → Nat) (n x : Nat) : Nat → Bool
  | 0 => decide (x = f n)
  | j + 1 => mayOf f mo n x j || (decide (j * 3 % 8 = n) && decide (mo j = x))
theorem mayOf_true (f mo : Nat → Nat) (n x : Nat) : ∀ k, (x = f n ∨ ∃ j, j < k ∧ j * 3 % 8 = n ∧ mo j = x) → mayOf f mo n x k = true
  | 0, h => by
    rcases h with h | ⟨j, hj, _⟩
    · simp [mayOf, h]
    · omega
  | k + 1, h => by
    unfold mayOf
    rcases h with h | ⟨j, hj, h1, h2⟩
    · rw [mayOf_true f mo n x k (.inl h)]; rfl
    · by_cases e : j = k
      · subst e; simp [h1, h2]
      · rw [mayOf_true f mo n x k (.inr ⟨j, by omega, h1, h2⟩)]; rfl
structure K3 (w wr : World) (g gn gl cn cl q : Nat) (f : Nat → Nat) (nv : List Value) : Prop where
  all : ∃ st lv, DkAt w.heap.size wr g gn gl 8 cn cl (.slice none 0 0) nv lv [] st false 0 false
  side : Side wr q g gn gl (.slice none 0 0)
  was : WasAt wr q f
  below : Below w.heap.size w wr
theorem k3_below {w wr wr' : World} {g gn gl cn cl q : Nat} {f : Nat → Nat} {nv : List Value} (h : K3 w wr g gn gl cn cl q f nv) (hb : Below wr.heap.size wr wr') : K3 w wr' g gn gl cn cl q f nv := by
  obtain ⟨st, lv, hD⟩ := h.all
  exact ⟨⟨st, lv, hD.below hb⟩, (side_below h.side hb).1, was_same h.was (side_below h.side hb).2, h.below.trans (hb.mono h.below.size)⟩
theorem b_conv {w V : World} {b cp : Nat} {x : Int} (h : ∀ j, j < 512 → w.cell? ⟨b, j, none⟩ = some (.int .u8 x)) (hb : Below w.heap.size w V) : (convert 34 9 (.slice (some ⟨b, 0, none⟩) 512 cp)).run Tryd.prog V = .ok (.string (secS x)) V :=
  run_convert_bytes_arg (P := Tryd.prog) V 34 5 Tryd.underlying34 Tryd.underlying5 b 0 512 cp (List.replicate 512 x) List.length_replicate (fun i hi => by
    rw [Nat.zero_add, hb.cell (World.block_lt_of_cell? w _ (h i hi)), h i hi, rep_getD 512 i x hi]) 9 Tryd.underlying9

open Go.ChangeShapes Go.WideShapes Go.ChangeAt Go.RowKit
set_option linter.unusedVariables false

def strs (ls : List ByteArray) : List Value := ls.map Value.string
/-- all sectors, one behind the other -/
def img (ls : List ByteArray) : ByteArray := ⟨((ls.map (·.data.toList)).flatten).toArray⟩
theorem joinTail_nil (r : List (List UInt8)) : Lib.joinTail [] r = r.flatten := by
  unfold Lib.joinTail
  congr 1
  induction r with
  | nil => rfl
  | cons a t ih => simp
theorem join_flat : ∀ (xs : List (List UInt8)), Lib.join xs [] = xs.flatten
  | [] => rfl
  | x :: r => by rw [Lib.join_cons, joinTail_nil]; rfl
theorem flat_inj (n : Nat) : ∀ (a b : List (List UInt8)), a.length = b.length → (∀ x ∈ a, x.length = n) → (∀ x ∈ b, x.length = n) → a.flatten = b.flatten → a = b
  | [], [], _, _, _, _ => rfl
  | x :: a, y :: b, h, ha, hb, e => by
    rw [List.flatten_cons, List.flatten_cons] at e
    have hx := ha x (List.mem_cons_self ..)
    have hy := hb y (List.mem_cons_self ..)
    obtain ⟨e1, e2⟩ := List.append_inj e (by rw [hx, hy])
    rw [e1, flat_inj n a b (by simpa using h) (fun z hz => ha z (List.mem_cons_of_mem _ hz)) (fun z hz => hb z (List.mem_cons_of_mem _ hz)) e2]
  | [], _ :: _, h, _, _, _ => by simp at h
  | _ :: _, [], h, _, _, _ => by simp at h
def Sz (ls : List ByteArray) : Prop := ls.length = 6 ∧ ∀ t ∈ ls, t.size = 512
theorem img_inj {a b : List ByteArray} (ha : Sz a) (hb : Sz b) (h : img a = img b) : a = b := by
  have h1 : (a.map (·.data.toList)).flatten = (b.map (·.data.toList)).flatten := by
    have := congrArg (fun x => x.data.toList) h
    simpa [img] using this
  have h2 := flat_inj 512 _ _ (by simp [ha.1, hb.1]) (by
    intro x hx
    obtain ⟨t, ht, rfl⟩ := List.mem_map.1 hx
    have := ha.2 t ht
    simpa using this) (by
    intro x hx
    obtain ⟨t, ht, rfl⟩ := List.mem_map.1 hx
    have := hb.2 t ht
    simpa using this) h1
  refine (List.map_inj_right (f := fun t : ByteArray => t.data.toList) ?_).1 h2
  intro x y e
  exact ByteArray.ext (Array.toList_inj.1 e)
theorem img_len {ls : List ByteArray} (h : Sz ls) : (Lib.join (ls.map (·.data.toList)) ([] : List UInt8)).length ≤ 10000 ∧ 0 < (img ls).size := by
  obtain ⟨h6, hs⟩ := h
  match ls, h6 with
  | [a, b, c, d, e, f], _ =>
    have ha := hs a (by simp)
    have hb := hs b (by simp)
    have hc := hs c (by simp)
    have hd := hs d (by simp)
    have he := hs e (by simp)
    have hf := hs f (by simp)
    rw [join_flat]
    have e1 : ∀ t : ByteArray, t.data.toList.length = t.size := fun t => by simp
    constructor
    · simp only [List.map_cons, List.map_nil, List.flatten_cons, List.flatten_nil, List.length_append, e1, List.length_nil]; omega
    · show 0 < ((List.flatten _).toArray).size
      simp only [List.size_toArray, List.map_cons, List.map_nil, List.flatten_cons, List.flatten_nil, List.length_append, e1, List.length_nil]; omega
/-- sectors that are written -/
def setT (ls : List ByteArray) (W : List (Nat × ByteArray)) : List ByteArray := W.foldl (fun l x => l.set x.1 x.2) ls
theorem setAll_strs (W : List (Nat × ByteArray)) : ∀ ls, setAll (strs ls) W = strs (setT ls W) := by
  unfold setAll setT
  induction W with
  | nil => intro ls; rfl
  | cons x t ih =>
    intro ls
    rw [List.foldl_cons, List.foldl_cons, ← ih]
    congr 1
    unfold strs
    rw [List.map_set]
theorem setT_sz (W : List (Nat × ByteArray)) : ∀ ls, Sz ls → (∀ x ∈ W, x.1 < 6 ∧ x.2.size = 512) → Sz (setT ls W) := by
  unfold setT
  induction W with
  | nil => intro ls h _; exact h
  | cons x t ih =>
    intro ls h hW
    rw [List.foldl_cons]
    refine ih _ ⟨by rw [List.length_set]; exact h.1, fun u hu => ?_⟩ fun y hy => hW y (List.mem_cons_of_mem _ hy)
    rcases List.mem_or_eq_of_mem_set hu with h' | h'
    · exact h.2 u h'
    · rw [h']; exact (hW x (List.mem_cons_self ..)).2
/-- a disk of six sectors, with power, that nobody armed: what lasts on it -/
def D6 (B : Nat) (w : World) (g : Nat) (ls : List ByteArray) (k : Nat) : Prop := ∃ gn gl cn cl vw ns W st, DkAt B w g gn gl 6 cn cl vw ns (strs ls) W st false 0 false ∧ (∀ x ∈ W, x.1 < 6 ∧ x.2.size = 512) ∧ W.length ≤ k ∧ 0 ≤ st ∧ st ≤ (k : Int) ∧ Sz ls
theorem d6_below {B : Nat} {w w' : World} {g k : Nat} {ls : List ByteArray} (h : D6 B w g ls k) (hb : Below w.heap.size w w') : D6 B w' g ls k := by
  obtain ⟨gn, gl, cn, cl, vw, ns, W, st, h1, h2⟩ := h
  exact ⟨gn, gl, cn, cl, vw, ns, W, st, h1.below hb, h2⟩
theorem d6_mono {B : Nat} {w : World} {g k k' : Nat} {ls : List ByteArray} (h : D6 B w g ls k) (hk : k ≤ k') : D6 B w g ls k' := by
  obtain ⟨gn, gl, cn, cl, vw, ns, W, st, h1, h2, h3, h4, h5, h6⟩ := h
  exact ⟨gn, gl, cn, cl, vw, ns, W, st, h1, h2, by omega, h4, by omega, h6⟩
theorem d6_lt {B : Nat} {w : World} {g k : Nat} {ls : List ByteArray} (h : D6 B w g ls k) : g < w.heap.size ∧ B ≤ g := by
  obtain ⟨gn, gl, cn, cl, vw, ns, W, st, h1, _⟩ := h
  exact ⟨head_lt h1.head, h1.ge.1⟩
set_option maxRecDepth 20000 in
theorem write_bad {B : Nat} {w : World} {g gn gl cn cl : Nat} {vw : Value} {ns ls : List Value} {W : List (Nat × ByteArray)} {st : Int} (h : DkAt B w g gn gl 6 cn cl vw ns ls W st false 0 false) (n : Int) (hn : ¬ (0 ≤ n ∧ n < 6)) (gb : Nat) :
    Calls Tryd.prog 27 #[.pointer (some ⟨g, 0, none⟩), .int .i64 n, .slice (some ⟨gb, 0, none⟩) 512 512] w fun e w' => e = .returned (.int .i64 1) ∧ w = w' := by
  have hc6 := head6 h.head
  have HH := Lib.hid (has_any g _ _ vw st false 0 false w (some ⟨gn, 0, none⟩) n 6 cn rfl (Lib.hid h.head))
  have hg0 : decide ((0 : Int) ≤ n ∧ n < ((6 : Nat) : Int)) = false := decide_eq_false hn
  rw [hg0] at HH
  clear h hn
  go_enter Tryd.func27, Tryd.ntmps27
  go_wp2_with fail
  refine HH.out.mono ?_
  rintro e w' ⟨rfl, hww⟩
  have hww := hww.symm
  subst hww
  go_wp2_with fail
  go_ret
  exact ⟨rfl, rfl⟩
theorem d6_write {B : Nat} {w : World} {g k : Nat} {ls : List ByteArray} (h : D6 B w g ls k) (hk : k ≤ 100) (n x : Int) (gb : Nat) (hs : Sec w gb x) (hgb : gb ≠ g) :
    Calls Tryd.prog 27 #[.pointer (some ⟨g, 0, none⟩), .int .i64 n, .slice (some ⟨gb, 0, none⟩) 512 512] w fun e w' => ∃ v : Int, e = .returned (.int .i64 v) ∧ D6 B w' g ls (k + 1) ∧ Below B w w' := by
  obtain ⟨gn, gl, cn, cl, vw, ns, W, st, h1, h2, h3, h4, h5, h6⟩ := h
  by_cases hn : 0 ≤ n ∧ n < 6
  · obtain ⟨m, rfl⟩ := Int.eq_ofNat_of_zero_le hn.1
    refine (dk_write2 0 rfl (m : Int) m rfl h1 (by omega) gb x hs hgb (by omega) (by decide) (by decide) (by omega) (by omega) (by decide)).mono ?_
    rintro e w' ⟨rfl, gw, cw, a1, a2, _⟩
    refine ⟨0, rfl, ⟨gn, gl, cn, cl, _, _, _, _, a1, fun y hy => ?_, by rw [List.length_append]; simp; omega, by omega, by omega, h6⟩, a2⟩
    rcases List.mem_append.1 hy with hy | hy
    · exact h2 y hy
    · rw [List.mem_singleton] at hy
      rw [hy]
      exact ⟨by show m < 6; omega, secS_size x⟩
  · refine (write_bad h1 n hn gb).mono ?_
    rintro e w' ⟨rfl, rfl⟩
    exact ⟨1, rfl, ⟨gn, gl, cn, cl, vw, ns, W, st, h1, h2, by omega, h4, by omega, h6⟩, Below.refl _ _⟩
theorem d6_barrier {B : Nat} {w : World} {g k : Nat} {ls : List ByteArray} (h : D6 B w g ls k) (hk : k ≤ 100) :
    Calls Tryd.prog 28 #[.pointer (some ⟨g, 0, none⟩)] w fun e w' => e = .returned (.int .i64 0) ∧ ∃ ls', D6 B w' g ls' (k + 1) ∧ Below B w w' := by
  obtain ⟨gn, gl, cn, cl, vw, ns, W, st, h1, h2, h3, h4, h5, h6⟩ := h
  refine (dk_barrier2 0 rfl h1 (fun x hx => (h2 x hx).1) (by omega) (by decide) (by decide) (by omega) (by omega) (by decide)).mono ?_
  rintro e w' ⟨rfl, a1, a2, _⟩
  rw [setAll_strs] at a1
  exact ⟨rfl, _, ⟨gn, gl, cn, cl, _, _, _, _, a1, by simp, by simp, by omega, by omega, setT_sz W ls h6 h2⟩, a2⟩
theorem sn_all (s : ByteArray) : strOfNums (s.data.toList.map fun b => (b.toNat : Int)) = s := by
  apply ByteArray.ext
  apply Array.toList_inj.1
  have e : ((fun n : Int => UInt8.ofNat n.toNat) ∘ (fun b : UInt8 => (b.toNat : Int))) = id := by funext b; simp
  simp [strOfNums, e]
theorem back_conv {w V : World} {b c : Nat} {s : ByteArray} (h : ∀ j, j < s.size → w.cell? ⟨b, j, none⟩ = some (.int .u8 (s.data.toList.getD j 0).toNat)) (hb : Below w.heap.size w V) : (convert 34 9 (.slice (some ⟨b, 0, none⟩) s.size c)).run Tryd.prog V = .ok (.string s) V := by
  have := run_convert_bytes_arg (P := Tryd.prog) V 34 5 Tryd.underlying34 Tryd.underlying5 b 0 s.size c (s.data.toList.map fun b => (b.toNat : Int)) (by simp) (fun i hi => by
    have hi2 : i < s.data.toList.length := by simpa using hi
    rw [Nat.zero_add, hb.cell (World.block_lt_of_cell? w _ (h i hi)), h i hi]
    simp [List.getD, hi]) 9 Tryd.underlying9
  rwa [sn_all] at this
set_option maxRecDepth 20000 in
theorem d6_image {B : Nat} {w : World} {g k : Nat} {ls : List ByteArray} (h : D6 B w g ls k) :
    Calls Tryd.prog 43 #[.pointer (some ⟨g, 0, none⟩)] w fun e w' => ∃ v, e = .returned v ∧ Hid (∀ V, Below w'.heap.size w' V → (convert 34 9 v).run Tryd.prog V = .ok (.string (img ls)) V) ∧ Below w.heap.size w w' := by
  obtain ⟨gn, gl, cn, cl, vw, ns, W, st, h1, h2, h3, h4, h5, h6⟩ := h
  have hc1 := head1 h1.head
  have hgl : gl < w.heap.size := by obtain ⟨cur, hq⟩ := own_type h1.rows; exact (Array.getElem?_eq_some_iff.1 hq).1
  have hcl : 6 ≤ cl := by
    rcases h1.rows.2 with ⟨e, h0⟩ | ⟨q, cap, cur, e, _, _, r, _⟩
    · cases e
    · cases e; exact r
  have HJ := Tryd.strings_Join gl 0 cl ls ⟨#[]⟩ w (fun j x hj => by
    have hjl := (List.getElem?_eq_some_iff.1 hj).1
    rw [Nat.zero_add, World.ownsRow.cellAt h1.rows j (by rw [h6.1] at hjl; omega)]
    unfold strs
    rw [List.getElem?_map, hj]; rfl) hgl (by rw [h6.1]; decide) (by rw [h6.1]; exact hcl) (by have := (img_len h6).1; exact Nat.le_trans this (by decide))
  rw [h6.1] at HJ
  have hji : (⟨(Lib.join (ls.map (·.data.toList)) (⟨#[]⟩ : ByteArray).data.toList).toArray⟩ : ByteArray) = img ls := by
    unfold img
    rw [← join_flat]
  rw [hji] at HJ
  have HJ := Lib.hid HJ
  have HB := Lib.hid (fun (V : World) => And.intro (Lib.run_convert_string_bytes (P := Tryd.prog) V 9 34 5 (img ls) Tryd.underlying9 Tryd.underlying34 Tryd.underlying5) (read_world V 5 (img ls)))
  clear h1 h2 h3 h4 h5 h6 hcl hji hgl
  generalize img ls = s at *
  go_enter Tryd.func43, Tryd.ntmps43
  go_wp2_with fail
  refine HJ.out.mono ?_
  rintro e w1 ⟨rfl, hb1⟩
  have hb1' := Lib.hid hb1
  obtain ⟨hcv, hrw⟩ := HB.out w1
  have hrw := Lib.hid hrw
  clear hb1 HB
  generalize Lib.bytesWorld w1 5 s = w2 at *
  generalize grownCap w1 s.size 0 5 = cp at *
  go_wp2_with fail
  go_ret
  exact ⟨_, rfl, Lib.hid fun V hV => back_conv hrw.out.1 hV, hb1'.out.trans (hrw.out.2.2.mono hb1'.out.size)⟩

end Go.Proofs.YtfhgdcljhncjmaaDoor.Fk
