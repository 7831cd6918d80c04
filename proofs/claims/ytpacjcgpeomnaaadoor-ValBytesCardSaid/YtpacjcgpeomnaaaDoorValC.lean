/- Check: a value in form, and its bytes' count. -/
import Derived.Test.YtpacjcgpeomnaaaDoorValP
import Derived.Test.YtpacjcgpeomnaaaDoorRegIn
import Derived.Test.YtpacjcgpeomnaaaDoorFr
import Derived.RangeFuncOne
namespace Go.Proofs.YtpacjcgpeomnaaaDoor
open Go.ChangeShapes Go.WideShapes Go.ChangeAt Go.RowKit Go.Shelf
open Go.Proofs.YtpacjcgpeomnaaaDoor.Fw (zz vb bytesOf cells)
set_option linter.unusedVariables false
set_option maxRecDepth 100000
attribute [local go_sem] Oper.semAt_some

/-- a part that came: what it is, how deep it stands -/
def VP (P : Nat × V → Prop) : Type := { x : Nat × V // P x }
def encV {P : Nat × V → Prop} (x : VP P) : Array Value := #[.int .i64 (x.1.1 : Int), x.1.2.val]
def rawV {P : Nat × V → Prop} (l : List (VP P)) : List (Nat × V) := l.map (·.1)
theorem rawV_app {P : Nat × V → Prop} (a : List (VP P)) (x : VP P) : rawV (a ++ [x]) = rawV a ++ [x.1] := by simp [rawV]
theorem walk_any (v : V) (w : World) : Calls Tryd.prog 28 #[v.val] w fun e w' => e = .returned (.func (.func 46) #[] #[.pointer (some ⟨w.heap.size, 0, none⟩)]) ∧ w' = w.alloc (.cells #[.int .i64 v.k, .int .i64 v.n, .string v.t, .slice v.a v.ks.length v.cap] 24) := by
  obtain ⟨k, n, t, a, cap, ks⟩ := v
  rw [V.val_eq]
  go_enter Tryd.func28, Tryd.ntmps28
  go_wp2_with fail
  go_ret
  exact ⟨rfl, rfl⟩
set_option maxHeartbeats 2000000 in
theorem walk1_in (F : Fence) (hd : F.depth = none) (n : Nat) (h1 : F.fn 46) (h2 : F.fn 47) (hro : F.round = none) (l Bv n₀ : Nat) (v : V) (P : Nat × V → Prop) (hP : ∀ x ∈ v.pre 1, P x) (J Jx : List (VP P) → World → Prop)
    (hJa : ∀ pre W W', J pre W → Below W.heap.size W W' → J pre W')
    (hY : ∀ pre (x : VP P) W, J pre W → pre.length < (er v).cnt → YieldAt F (n - 1) Tryd.prog l (encV x) W fun e W' =>
      (e = .returned (.bool true) ∧ J (pre ++ [x]) W' ∧ KeepV n₀ W W') ∨ (e = .returned (.bool false) ∧ Jx (pre ++ [x]) W'))
    (W : World) (hB : W.heap[Bv]? = some (.cells #[.int .i64 v.k, .int .i64 v.n, .string v.t, .slice v.a v.ks.length v.cap] 24 (0, 0))) (hL : Lies (· < n₀) W v) (hn : n₀ ≤ W.heap.size) (hht : 1 + (er v).ht ≤ 100000) (h0 : J [] W) :
    CallsIn F n Tryd.prog 46 #[.func (.yield l) #[] #[], .pointer (some ⟨Bv, 0, none⟩)] W fun e W' => (∃ v, e = .returned v) ∧
      ((∃ ys, rawV ys = v.pre 1 ∧ J ys W') ∨ (∃ pre, rawV pre <+: v.pre 1 ∧ Jx pre W')) := by
  have hdn : ∀ k : Nat, (F.depth.isSome = true → 1 ≤ k) := fun k h => by rw [hd] at h; cases h
  have hp := walkFrom_in F hd h2 hro l n₀ (er v).cnt P (fun pre W => ∃ ys, rawV ys = pre ∧ J ys W) (fun pre W => ∃ ys, rawV ys = pre ∧ Jx ys W)
    (fun pre W W' ⟨ys, e, h⟩ hb => ⟨ys, e, hJa ys W W' h hb⟩)
    (fun m pre x W ⟨ys, e, h⟩ hlen hok => YieldAt.mono (yield_depth hd m (hY ys ⟨x, hok⟩ W h (by rw [← e] at hlen; simpa [rawV] using hlen))) fun e2 W' hh => by
      rcases hh with ⟨he, hj, hk⟩ | ⟨he, hj⟩
      · exact .inl ⟨he, ⟨_, (rawV_app ys ⟨x, hok⟩).trans (by rw [e]), hj⟩, hk⟩
      · exact .inr ⟨he, ⟨_, (rawV_app ys ⟨x, hok⟩).trans (by rw [e]), hj⟩⟩) v (n - 1) 1 [] W hL hn ⟨[], rfl, h0⟩ (by simp) hht hP
  obtain ⟨b0, b1, b2, b3⟩ := box4 hB
  have HP := Lib.hid hp
  unfold V.val at HP
  clear hp hY hJa hL hB h0 hP
  refine callsIn_of_wp Tryd.func46 rfl h1 ?_ hro
  simp only [Tryd.ntmps46, List.size_toArray, List.length_cons, List.length_nil, Nat.reduceAdd, Nat.reduceSub, Array.replicate_succ, Array.replicate_zero, List.push_toArray, List.append_toArray, List.nil_append, List.cons_append]
  gi_wp2_with ((try refine ⟨hdn _, ?_⟩); gi_at_call 47; refine HP.out.mono ?_; clear HP; rintro e W1 (⟨rfl, HJ1, _⟩ | ⟨rfl, HX⟩))
  · go_end0
    obtain ⟨ys, e, h⟩ := HJ1
    exact ⟨⟨_, rfl⟩, .inl ⟨ys, by simpa using e, h⟩⟩
  · go_end0
    obtain ⟨q, hq, ys, e, h⟩ := HX
    exact ⟨⟨_, rfl⟩, .inr ⟨ys, by rw [e]; simpa using hq, h⟩⟩
theorem grown_below {W W' : World} (h : Below W.heap.size W W') : W.grownBy W' none := ⟨h.os, h.tape, h.output, h.size, fun k hk _ => h.block k hk⟩
theorem walk_stops (F : Fence) (hd : F.depth = none) (n : Nat) (h1 : F.fn 46) (h2 : F.fn 47) (hro : F.round = none) (Bv n₀ : Nat) (v : V) (w : World)
    (hB : w.heap[Bv]? = some (.cells #[.int .i64 v.k, .int .i64 v.n, .string v.t, .slice v.a v.ks.length v.cap] 24 (0, 0))) (hL : Lies (· < n₀) w v) (hn : n₀ ≤ w.heap.size) (hht : 1 + (er v).ht ≤ 100000) (P : Nat × V → Prop) (hP : ∀ x ∈ v.pre 1, P x) :
    SeqStopsK F n Tryd.prog 46 #[.pointer (some ⟨Bv, 0, none⟩)] (encV (P := P)) (KeepV n₀) (fun ys => rawV ys = v.pre 1) (fun pre => rawV pre <+: v.pre 1) (er v).cnt w := fun l J Jx W hW hJ _ hY h0 =>
  walk1_in F hd n h1 h2 hro l Bv n₀ v P hP J Jx (fun pre W1 W2 h hb => hJ pre W1 W2 none h (grown_below hb) (fun r e => by cases e)) hY W (by rw [hW.block Bv (Array.getElem?_eq_some_iff.1 hB).1]; exact hB) (hL.below (hW.mono hn)) (Nat.le_trans hn hW.size) hht h0
end Go.Proofs.YtpacjcgpeomnaaaDoor
