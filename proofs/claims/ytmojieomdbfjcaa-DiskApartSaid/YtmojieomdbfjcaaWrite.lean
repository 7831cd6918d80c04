/- Contract of Write. -/
import Derived.Test.YtmojieomdbfjcaaBase
import Derived.Deep.RegionLaw
import Derived.Deep.RegionHeld3
import Derived.ArgAppend
namespace Go.Proofs.Ytmojieomdbfjcaa
open Go.ChangeShapes Go.WideShapes Go.ChangeAt Go.RowKit

theorem own_base {w : World} {b b' : Nat} {e : TypeId} {z : Nat} {v : Value} {n : Nat} {xs : List Value} (h : w.ownsRow b' e z v n xs) (hb : b ≤ b') : w.ownsRow b e z v n xs := by
  refine ⟨h.1, ?_⟩
  rcases h.2 with h' | ⟨g, cap, cur, hv, hg, r⟩
  · exact .inl h'
  · exact .inr ⟨g, cap, cur, hv, Nat.le_trans hb hg, r⟩
/-- an append, whether there is room or not: the row stays where it is, or is a new one -/
theorem run_append_place {P : Program} (w : World) (t ty e : TypeId) (i : TypeInfo) (z : Value) (size bytes : Nat) (ht : P.underlying t = some (.slice e)) (hi : P.info? e = some i) (hz : i.zero = some z)
    (hsize : i.size = size) (hby : i.bytes = bytes) (hzs : z.cells.size = size) (hsz : 0 < size)
    (v : Value) (n : Nat) (xs : List Value) (hown : w.ownsRow 0 e size v n xs)
    (ad : Addr) (m c : Nat) (news : List Value) (hl : news.length = m * size) (hnews : ∀ j u, news[j]? = some u → w.cell? (ad.add j) = some u) (h1 : ∀ u ∈ news, u.oneCell' = true)
    (h63 : n + m ≤ maxLen) (hbytes : (n + m) * bytes ≤ 140737488355328) :
    ∃ v' w', (Builtin.append_ #[t, t] ty #[v, .slice (some ad) m c]).run P w = .ok v' w' ∧ w'.ownsRow 0 e size v' (n + m) (xs ++ news) ∧ w.grownBy w' v.ownBlock ∧ (v'.ownBlock = v.ownBlock ∨ w'.ownsRow w.heap.size e size v' (n + m) (xs ++ news)) := by
  rcases hown.2 with ⟨hv, hn⟩ | ⟨g, cap, cur, hv, hb, hg, hnc, r⟩
  · subst hv
    subst hn
    have hx : xs = [] := List.eq_nil_of_length_eq_zero (by simpa using hown.1)
    subst hx
    obtain ⟨v', w', hr, a1, a2, _⟩ := run_append_own (P := P) w w.heap.size t ty e i z size bytes ht hi hz hsize hby hzs hsz (.slice none 0 0) 0 [] (World.ownsRow_nil w _ e size) ad m c news hl hnews h1 h63 hbytes (Nat.le_refl _)
    exact ⟨v', w', hr, own_base a1 (Nat.zero_le _), a2, .inr a1⟩
  · subst hv
    by_cases hroom : n + m ≤ cap
    · obtain ⟨w', hr, a1, a2⟩ := run_append_fits (P := P) w 0 t ty e i size ht hi hsize g n cap xs hown ad m c news hl hnews h1 hroom
      exact ⟨_, w', hr, a1, a2, .inl rfl⟩
    · obtain ⟨v', w', hr, a1, a2⟩ := run_append_arg_grows (P := P) w t ty e i z size bytes ht hi hz hsize hby hzs hsz ⟨g, 0, none⟩ n cap xs hown.1 (hown.cells (g := g) rfl) ad m c news hl hnews (by omega) h63 hbytes
      exact ⟨v', w', hr, own_base a1 (Nat.zero_le _), ⟨a2.os, a2.tape, a2.output, a2.size, fun k hk _ => a2.block k hk (fun h => by cases h)⟩, .inr a1⟩

theorem step_append_place {P : Program} {ops : Array Oper} {o : Oper} {a : Act} {w : World} {K : Act → World → Prop} {Q : Exit → Act → World → Prop} {E : Prop}
    (hgu : o.guard = none) (s x : Operand) (t : TypeId) (ho : o.op = Op.call { callee := Callee.builtin Builtin.append, args := #[s, x], argTypes := #[t, t] })
    (e : TypeId) (i : TypeInfo) (z : Value) (size bytes : Nat) (ht : P.underlying t = some (.slice e)) (hi : P.info? e = some i) (hz : i.zero = some z)
    (hsize : i.size = size) (hby : i.bytes = bytes) (hzs : z.cells.size = size) (hsz : 0 < size)
    (v : Value) (n : Nat) (xs : List Value) (hs : a.eval s = v) (hown : w.ownsRow 0 e size v n xs)
    (ad : Addr) (m c : Nat) (news : List Value) (hx : a.eval x = .slice (some ad) m c) (hl : news.length = m * size) (hnews : ∀ j u, news[j]? = some u → w.cell? (ad.add j) = some u) (h1 : ∀ u ∈ news, u.oneCell' = true)
    (h63 : n + m ≤ maxLen) (hbytes : (n + m) * bytes ≤ 140737488355328)
    (hK : ∀ v' w', w'.ownsRow 0 e size v' (n + m) (xs ++ news) → w.grownBy w' v.ownBlock → (v'.ownBlock = v.ownBlock ∨ w'.ownsRow w.heap.size e size v' (n + m) (xs ++ news)) → K (a.put o.dst v') w') :
    if Region.wanted o (yielded ops a.tmps) = true then Oper.wp P o a w K Q else E := by
  have hw : Region.wanted o (yielded ops a.tmps) = true := by simp [Region.wanted, hgu]
  rw [if_pos hw]
  obtain ⟨v', w', hrun, r1, r2, r3⟩ := run_append_place (P := P) w t o.type e i z size bytes ht hi hz hsize hby hzs hsz v n xs hown ad m c news hl hnews h1 h63 hbytes
  unfold Oper.wp
  simp [execOp, ho, resolve, invoke, builtin, hs, hx, hrun, Result.andThen]
  exact hK v' w' r1 r2 r3

theorem info_write : (Try.prog.info? 58).map (fun i => (i.zero, i.size, i.bytes)) = some (some (.agg #[.int .i64 0, .string ⟨#[]⟩]), 2, 24) := by kernel_rfl
theorem new_two (w : World) (a b : Value) (t : TypeId) : ∀ (j : Nat) (u : Value), [a, b][j]? = some u → (w.alloc (.cells #[a, b] t)).cell? ((⟨w.heap.size, 0, none⟩ : Addr).add j) = some u := by
  intro j u hj
  rw [Addr.add_lit, World.cell?_alloc_mark]
  simpa using hj
theorem new_two_drew (w : World) (a b : Value) (t : TypeId) : ∀ (j : Nat) (u : Value), [a, b][j]? = some u → (w.alloc (.cells #[a, b] t)).drew.cell? ((⟨w.heap.size, 0, none⟩ : Addr).add j) = some u := new_two w a b t
theorem own_drew {w : World} {b : Nat} {e : TypeId} {z : Nat} {v : Value} {n : Nat} {xs : List Value} (h : w.ownsRow b e z v n xs) : w.drew.ownsRow b e z v n xs := h
theorem own_shape {w : World} {b : Nat} {e : TypeId} {z : Nat} {v : Value} {n : Nat} {xs : List Value} (h : w.ownsRow b e z v n xs) (hn : 0 < n) : ∃ g cap, v = .slice (some ⟨g, 0, none⟩) n cap := by
  rcases h.2 with ⟨_, h0⟩ | ⟨g, cap, cur, hv, _⟩
  · omega
  · exact ⟨g, cap, hv⟩
theorem own_type {w : World} {b : Nat} {e : TypeId} {z g n c : Nat} {xs : List Value} (h : w.ownsRow b e z (.slice (some ⟨g, 0, none⟩) n c) n xs) : ∃ cur, w.heap[g]? = some (.cells cur e (0, 0)) := by
  rcases h.2 with ⟨h0, _⟩ | ⟨g', cap, cur, hv, _, hg, _⟩
  · cases h0
  · simp only [Value.slice.injEq, Option.some.injEq, Addr.mk.injEq, and_true, true_and] at hv
    obtain ⟨rfl, rfl⟩ := hv
    exact ⟨cur, hg⟩
theorem one_two {n : Int} {s : ByteArray} : ∀ u ∈ [Value.int IntKind.i64 n, Value.string s], u.oneCell' = true := by
  intro u hu
  simp at hu
  rcases hu with rfl | rfl <;> rfl
theorem head_lt {w : World} {g : Nat} {vn vl vw : Value} {st : Int} {ar : Bool} {le : Int} {off : Bool} (h : Head w g vn vl vw st ar le off) : g < w.heap.size := by
  unfold Head at h
  exact (Array.getElem?_eq_some_iff.1 h).1
theorem head_only {S : Nat → Prop} {w w' : World} {g : Nat} {vn vl vw : Value} {st : Int} {ar : Bool} {le : Int} {off : Bool} (h : Head w g vn vl vw st ar le off) (ho : Only S w w') (hs : ¬ S g) : Head w' g vn vl vw st ar le off := by
  have hl := head_lt h
  unfold Head at *
  rw [ho.block g hl hs]; exact h
theorem own_only {S : Nat → Prop} {w w' : World} {b : Nat} {e : TypeId} {z : Nat} {v : Value} {n : Nat} {xs : List Value} (h : w.ownsRow b e z v n xs) (ho : Only S w w') (hs : ∀ k, v.ownBlock = some k → ¬ S k) : w'.ownsRow b e z v n xs :=
  own_same h fun k hk => ho.block k (h.lt k hk).2 (hs k hk)

/-- behind the append -/
structure Mid (w2 w3 : World) (g : Nat) (vn vl vw : Value) (st : Int) (ar : Bool) (le : Int) (off : Bool) (m : Nat) (xs news : List Value) (gw cw : Nat) : Prop where
  head : Head w3 g vn vl vw st ar le off
  only : Only (fun k => vw.ownBlock = some k) w2 w3
  own : w3.ownsRow 0 58 2 (.slice (some ⟨gw, 0, none⟩) (m + 1) cw) (m + 1) (xs ++ news)
  place : vw.ownBlock = some gw ∨ w2.heap.size ≤ gw
theorem mid_of {w2 W w3 : World} {g : Nat} {vn vl vw : Value} {st : Int} {ar : Bool} {le : Int} {off : Bool} {m gw cw : Nat} {xs news : List Value} (hb : Head w2 g vn vl vw st ar le off) (hW : Only (fun _ => False) w2 W)
    (ho : w3.ownsRow 0 58 2 (.slice (some ⟨gw, 0, none⟩) (m + 1) cw) (m + 1) (xs ++ news)) (hg : W.grownBy w3 vw.ownBlock) (hn : vw.ownBlock ≠ some g)
    (hp : (Value.slice (some ⟨gw, 0, none⟩) (m + 1) cw).ownBlock = vw.ownBlock ∨ w3.ownsRow W.heap.size 58 2 (.slice (some ⟨gw, 0, none⟩) (m + 1) cw) (m + 1) (xs ++ news)) :
    Mid w2 w3 g vn vl vw st ar le off m xs news gw cw := by
  have hon : Only (fun k => vw.ownBlock = some k) w2 w3 := (hW.mono fun _ _ h => h.elim).grown hg fun k e => e
  refine ⟨head_only hb hon hn, hon, ho, ?_⟩
  rcases hp with h | h
  · exact .inl h.symm
  · exact .inr (Nat.le_trans hW.size ((h.lt gw rfl).1))

/-- what Write leaves -/
def WOut (w w' : World) (g : Nat) (vn vl vw : Value) (st : Int) (ar : Bool) (le : Int) (m : Nat) (ws : List Value) (gn L C : Nat) (ys : List Value) : Prop :=
  ∃ gw cw, Head w' g vn vl (.slice (some ⟨gw, 0, none⟩) (m + 1) cw) st ar le false ∧ w'.ownsRow 0 58 2 (.slice (some ⟨gw, 0, none⟩) (m + 1) cw) (m + 1) ws ∧
    w'.ownsRow 0 9 1 (.slice (some ⟨gn, 0, none⟩) L C) L ys ∧ (vw.ownBlock = some gw ∨ w.heap.size ≤ gw) ∧ gw ≠ g ∧ gw ≠ gn ∧ Only (fun k => k = g ∨ vw.ownBlock = some k ∨ k = gn) w w'
theorem wout_set {w w4 : World} {g : Nat} {vn vl vw : Value} {st : Int} {ar : Bool} {le : Int} {m : Nat} {ws : List Value} {gn L C gw cw : Nat} {ys : List Value} (hg : gn ≠ g) (n : Nat) (u : Value)
    (h : Head w4 g vn vl (.slice (some ⟨gw, 0, none⟩) (m + 1) cw) st ar le false ∧ w4.ownsRow 0 58 2 (.slice (some ⟨gw, 0, none⟩) (m + 1) cw) (m + 1) ws ∧
      w4.ownsRow 0 9 1 (.slice (some ⟨gn, 0, none⟩) L C) L ys ∧ (vw.ownBlock = some gw ∨ w.heap.size ≤ gw) ∧ gw ≠ g ∧ gw ≠ gn ∧ Only (fun k => k = g ∨ vw.ownBlock = some k ∨ k = gn) w w4) :
    WOut w (w4.setCell ⟨gn, n, none⟩ u) g vn vl vw st ar le m ws gn L C (ys.set n u) := by
  obtain ⟨a, b, c, d, e, f, o⟩ := h
  have hs : Only (· = gn) w4 (w4.setCell ⟨gn, n, none⟩ u) := only_set (Only.refl _ w4) n u
  exact ⟨gw, cw, head_only a hs fun x => hg x.symm, own_only b hs fun k hk x => f (by cases hk; exact x), (World.ownsRow.stored c n u).1, d, e, f, o.trans (hs.mono fun _ _ x => .inr (.inr x))⟩

theorem wout_drew {w w4 : World} {g : Nat} {vn vl vw : Value} {st : Int} {ar : Bool} {le : Int} {m : Nat} {ws : List Value} {gn L C : Nat} {ys : List Value} (h : WOut w w4 g vn vl vw st ar le m ws gn L C ys) : WOut w w4.drew g vn vl vw st ar le m ws gn L C ys := by
  obtain ⟨gw, cw, a, b, c, d, e, f, o⟩ := h
  exact ⟨gw, cw, a, b, c, d, e, f, o.drew⟩

section
variable (g : Nat) (vn vl vw : Value) (st : Int) (ar : Bool) (le : Int) (off : Bool) (w : World)
set_option maxRecDepth 20000 in
theorem write_ok (le' : Int) (hle : le' = if ar = true then le - 1 else le) (m : Nat) (xs : List Value) (hm : m ≤ 1000000) (hown : Hid (w.ownsRow 0 58 2 vw m xs)) (hneg : Hid (vw.ownBlock ≠ some g)) (gn L C : Nat) (ys : List Value) (n : Nat) (hn : n < L) (sp : Option Addr) (cap : Nat) (s : ByteArray) (h0 : 0 ≤ le) (h1 : le ≤ 9223372036854775807) (h2 : 0 ≤ st) (h3 : st ≤ 1000000000)
    (hv : vn = .slice (some ⟨gn, 0, none⟩) L C) (hN : Hid (w.ownsRow 0 9 1 (.slice (some ⟨gn, 0, none⟩) L C) L ys)) (hgn : Hid (gn ≠ g ∧ vw.ownBlock ≠ some gn))
    (hb : Hid (Head w g vn vl vw st ar le false)) (hd : ¬ (ar = true ∧ le = 0)) (hcv : Hid (∀ W, Only (· = g) w W → (convert 22 9 (.slice sp 512 cap)).run Try.prog W = .ok (.string s) W)) :
    Calls Try.prog 8 #[.pointer (some ⟨g, 0, none⟩), .int .i64 (n : Int), .slice sp 512 cap] w fun e w' => e = .returned (.int .i64 0) ∧
      WOut w w' g vn vl vw (st + 1) ar le' m (xs ++ [Value.int IntKind.i64 (n : Int), Value.string s]) gn L C (ys.set n (.string s)) := by
  have HH := Lib.hid (has_any g vn vl vw st ar le false w (some ⟨gn, 0, none⟩) n L C hv hb)
  have HC0 := change_ok g vn vl vw st ar le w h0 h1 h2 h3 hb hd
  rw [← hle] at HC0
  clear hle
  have HC := Lib.hid HC0
  clear HC0
  subst hv
  have hc6 := head6 hb.out
  have hg0 : decide ((0 : Int) ≤ (n : Int) ∧ (n : Int) < (L : Int)) = true := decide_eq_true (by omega)
  rw [hg0] at HH
  go_enter Try.func8, Try.ntmps8
  go_wp2_with fail
  refine HH.out.mono ?_
  rintro e w' ⟨rfl, hww⟩
  have hww := hww.symm
  subst hww
  go_wp2_with fail
  refine HC.out.mono ?_
  rintro e w1 ⟨rfl, hb1', ho1'⟩
  have hcv1 := hcv.out w1 ho1'
  have hb1 := Lib.hid hb1'
  have ho1 := Lib.hid ho1'
  clear hb1' ho1'
  go_wp2_with fail
  have hk1 : g < w1.heap.size := head_lt hb1.out
  have hown1 : w1.ownsRow 0 58 2 vw m xs := own_only hown.out ho1.out fun k hk e => hneg.out (by rw [hk, e])
  have hN1 : w1.ownsRow 0 9 1 (.slice (some ⟨gn, 0, none⟩) L C) L ys := own_only hN.out ho1.out fun k hk e => hgn.out.1 (by cases hk; exact e)
  have hvk : vw.ownBlock ≠ some w1.heap.size := fun e => by have := (hown1.lt _ e).2; omega
  have hown2 := Lib.hid (hown1.alloc (Obj.cells #[Value.int IntKind.i64 (n : Int), Value.string s] 58))
  have hN2 := Lib.hid (hN1.alloc (Obj.cells #[Value.int IntKind.i64 (n : Int), Value.string s] 58))
  clear hown1 hN1
  have ho2 : Only (· = g) w (w1.alloc (Obj.cells #[Value.int IntKind.i64 (n : Int), Value.string s] 58)) := ho1.out.alloc _
  have hb2 : Head (w1.alloc (Obj.cells #[Value.int IntKind.i64 (n : Int), Value.string s] 58)) g (.slice (some ⟨gn, 0, none⟩) L C) vl vw (st + 1) ar le' false := head_only hb1.out ((Only.refl (fun _ => False) _).alloc _) fun h => h
  have hr2 : (w1.alloc (Obj.cells #[Value.int IntKind.i64 (n : Int), Value.string s] 58)).heap[w1.heap.size]? = some (.cells #[Value.int IntKind.i64 (n : Int), Value.string s] 58 (0, 0)) := Array.getElem?_push_size
  have hlt2 : w1.heap.size < (w1.alloc (Obj.cells #[Value.int IntKind.i64 (n : Int), Value.string s] 58)).heap.size := by simp
  generalize (w1.alloc (Obj.cells #[Value.int IntKind.i64 (n : Int), Value.string s] 58)) = w2 at *
  generalize w1.heap.size = k8 at *
  have hc2 := head2 hb2
  have hf2 := head_free (i := 2) hb2
  have c80 : w2.cell? ⟨k8, 0, none⟩ = some (Value.int IntKind.i64 (n : Int)) := by simp [World.cell?, hr2]
  have c81 : w2.cell? ⟨k8, 1, none⟩ = some (Value.string s) := by simp [World.cell?, hr2]
  have hc2a : (w2.alloc (Obj.cells #[Value.int IntKind.i64 (n : Int), Value.string s] 58)).drew.cell? ⟨g, 2, none⟩ = some vw := (World.cell?_alloc_old w2 _ _ (Nat.ne_of_lt (World.block_lt_of_cell? w2 _ hc2))).trans hc2
  have hb2' := Lib.hid hb2
  have hr2' := Lib.hid (fun _ : True => hr2)
  have ho2' := Lib.hid ho2
  have hside := Lib.hid (And.intro hvk (And.intro hk1 hlt2))
  clear hb2 hr2 ho2 hcv1 ho1 hb1 hvk hk1 hlt2
  obtain ⟨i0, hi, hz0, hz1, hz2⟩ := info_parts info_write
  go_region_law (refine step_append_place rfl (.tmp 40) (.tmp 42) 53 rfl 58 i0 _ 2 24 Try.underlying53 hi hz0 hz1 hz2 rfl (by decide) vw m xs (by simp [Act.eval]) (by first | exact World.ownsRow.alloc hown2.out _ | exact own_drew (World.ownsRow.alloc hown2.out _)) ⟨w2.heap.size, 0, none⟩ 1 1 [Value.int IntKind.i64 (n : Int), Value.string s] (by simp [Act.eval]) rfl (by first | exact new_two _ _ _ _ | exact new_two_drew _ _ _ _) one_two (by unfold maxLen; omega) (by omega) ?_; intro v' w3 hown3 hgrow3 hp3; obtain ⟨gw, cw, hv'⟩ := own_shape hown3 (by omega); subst hv'; have hall := mid_of hb2'.out (by first | exact ((Only.refl _ w2).drew).alloc _ | exact ((Only.refl _ w2).alloc _).drew) hown3 hgrow3 hneg.out hp3; have hc3 := head2 hall.head; have hf3 := head_free (i := 2) hall.head; have hall' := Lib.hid hall; clear hall hown3 hgrow3 hp3)
  all_goals (
    have hM := hall'.out
    have hgw0 : gw ≠ g := fun e => by
      obtain ⟨cur, hq⟩ := own_type hM.own
      have h := hM.head
      unfold Head at h
      rw [e, h] at hq
      exact absurd hq (by simp)
    have hN3 := own_only hN2.out hM.only fun k hk e => hgn.out.2 (by cases hk; exact e)
    have hgw1 : gw ≠ gn := fun e => by
      obtain ⟨cur, hq⟩ := own_type hM.own
      obtain ⟨cur', hq'⟩ := own_type hN3
      rw [e, hq'] at hq
      exact absurd hq (by simp)
    have hh4 := head_set2 hM.head (.slice (some ⟨gw, 0, none⟩) (m + 1) cw)
    have hO4 : Only (fun k => k = g ∨ vw.ownBlock = some k ∨ k = gn) w (w3.setCell ⟨g, 2, none⟩ (.slice (some ⟨gw, 0, none⟩) (m + 1) cw)) :=
      Only.setCell ((ho2'.out.mono fun _ _ h => .inl h).trans (hM.only.mono fun _ _ h => .inr (.inl h))) (.inl rfl) _
    have hown4 := Only.setCell (S := (· = g)) (Only.refl _ w3) (p := ⟨g, 2, none⟩) rfl (.slice (some ⟨gw, 0, none⟩) (m + 1) cw)
    have hW4 := own_only hM.own hown4 fun k hk e => hgw0 (by cases hk; exact e)
    have hN4 := own_only hN3 hown4 fun k hk e => hgn.out.1 (by cases hk; exact e)
    have hk84 : (w3.setCell ⟨g, 2, none⟩ (.slice (some ⟨gw, 0, none⟩) (m + 1) cw)).heap[k8]? = some (.cells #[Value.int IntKind.i64 (n : Int), Value.string s] 58 (0, 0)) :=
      (hown4.block k8 (Nat.lt_of_lt_of_le hside.out.2.2 hM.only.size) (fun e => by have := hside.out.2.1; omega)).trans ((hM.only.block k8 hside.out.2.2 hside.out.1).trans (hr2'.out trivial))
    have hpl : vw.ownBlock = some gw ∨ w.heap.size ≤ gw := hM.place.imp id fun h => Nat.le_trans ho2'.out.size h
    clear hM hall' hc3 hf3 hN3 hown4
    generalize (w3.setCell ⟨g, 2, none⟩ (.slice (some ⟨gw, 0, none⟩) (m + 1) cw)) = w4 at *
    have c40 := head0 hh4
    have c81' : w4.cell? ⟨k8, 1, none⟩ = some (Value.string s) := by simp [World.cell?, hk84]
    have hlen : ys.length = L := by have := hN4.1; omega
    have c4n : w4.cell? ⟨gn, n, none⟩ = some ys[n] := by rw [World.ownsRow.cellAt hN4 n (by omega)]; exact List.getElem?_eq_getElem _
    have f4n := World.ownsRow.frozenAt hN4 n
    have HA := Lib.hid (And.intro hh4 (And.intro hW4 (And.intro hN4 (And.intro hpl (And.intro hgw0 (And.intro hgw1 hO4))))))
    clear hh4 hW4 hN4 hpl hgw0 hgw1 hO4 hk84
    have hi0 : (0 : Int) ≤ (n : Int) := Int.natCast_nonneg n
    have hi1 : (n : Int) < (L : Int) := by omega
    go_wp2
    go_region
    all_goals go_wp2
    all_goals go_ret
    all_goals exact ⟨rfl, wout_drew (wout_set hgn.out.1 n _ HA.out)⟩)
end
end Go.Proofs.Ytmojieomdbfjcaa
