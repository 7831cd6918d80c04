/- The walk over a value and its parts (an iterator that calls itself). -/
import Derived.Test.YtpacjcgpeomnaaaDoorValA
import Derived.RangeFuncNested
import Derived.RangeFuncBound
import Derived.RangeFuncLeaves
import Derived.Shelf.Abstract
import Derived.Shelf.RegionOpen
import Derived.OwnWalkIn
import Derived.TacticsInMore
import Derived.LoopNIn
import Derived.LoopIn
namespace Go.Proofs.YtpacjcgpeomnaaaDoor
open Go.ChangeShapes Go.WideShapes Go.ChangeAt Go.RowKit Go.Shelf
set_option linter.unusedVariables false
set_option maxRecDepth 100000
attribute [local go_sem] Oper.semAt_some

theorem room_none {F : Fence} (hd : F.depth = none) (k : Nat) : F.room k := fun d h => by rw [hd] at h; cases h
theorem round_depth {F : Fence} (hd : F.depth = none) {m m' : Nat} {P : Program} {l : Nat} {f : FuncId} {tmps : Array Value} {assign body : Code} {w : World} {R : Ending → World → Prop}
    (h : RoundIn F m P l f tmps assign body w R) : RoundIn F m' P l f tmps assign body w R := ⟨h.1, fun c cs _ => h.2 c cs (room_none hd _)⟩
theorem yield_depth {F : Fence} (hd : F.depth = none) {m : Nat} (m' : Nat) {P : Program} {l : Nat} {args : Array Value} {W : World} {R : Ending → World → Prop} (h : YieldAt F m P l args W R) : YieldAt F m' P l args W R := by
  obtain ⟨fn, tmps, assign, body, hy, hR⟩ := h
  exact ⟨fn, tmps, assign, body, hy, round_depth hd hR⟩
/-- what lay below n₀ lies, and every value's cells do -/
def KeepV (n₀ : Nat) (w w' : World) : Prop := Below n₀ w w' ∧ ∀ (q : Nat) (cs : Array Value) (fr : Nat × Nat), w.heap[q]? = some (Obj.cells cs 24 fr) → w'.heap[q]? = some (Obj.cells cs 24 fr)
theorem KeepV.refl (n₀ : Nat) (w : World) : KeepV n₀ w w := ⟨Below.refl _ _, fun _ _ _ h => h⟩
theorem KeepV.trans {n₀ : Nat} {a b c : World} (h : KeepV n₀ a b) (k : KeepV n₀ b c) : KeepV n₀ a c := ⟨h.1.trans k.1, fun q cs fr hq => k.2 q cs fr (h.2 q cs fr hq)⟩
theorem KeepV.of_below {n₀ : Nat} {w w' : World} (h : Below w.heap.size w w') (hn : n₀ ≤ w.heap.size) : KeepV n₀ w w' := ⟨h.mono hn, fun q cs fr hq => by rw [h.block q (Array.getElem?_eq_some_iff.1 hq).1]; exact hq⟩
theorem KeepV.putObj {n₀ : Nat} {w : World} (hn : n₀ ≤ w.heap.size) (W : World) (l : Nat) (o o' : Obj) (hl : w.heap.size ≤ l) (h : W.heap[l]? = some o) (ho : o.isCells = false) (hw : o.isWalk = false) : KeepV n₀ W (W.putObj l o') :=
  ⟨belowK_b hn W l o o' hl h ho hw, fun q cs fr hq => by
    rw [World.putObj_heap_other (fun e => by rw [e, h] at hq; cases hq; simp [Obj.isCells] at ho)]
    exact hq⟩
theorem box4 {w : World} {g : Nat} {a b c d : Value} {t : TypeId} (h : w.heap[g]? = some (.cells #[a, b, c, d] t (0, 0))) : w.cell? ⟨g, 0, none⟩ = some a ∧ w.cell? ⟨g, 1, none⟩ = some b ∧ w.cell? ⟨g, 2, none⟩ = some c ∧ w.cell? ⟨g, 3, none⟩ = some d := by
  refine ⟨?_, ?_, ?_, ?_⟩ <;> simp [World.cell?, h]
theorem V.val_eq (k n : Int) (t : ByteArray) (a : Option Addr) (cap : Nat) (ks : List V) : V.val (.mk k n t a cap ks) = .agg #[.int .i64 k, .int .i64 n, .string t, .slice a ks.length cap] := rfl
theorem pres_nil (d : Nat) : V.pres d [] = [] := by unfold V.pres; rfl
theorem pres_cons (d : Nat) (v : V) (vs : List V) : V.pres d (v :: vs) = V.pre d v ++ V.pres d vs := by conv => lhs; unfold V.pres
theorem pres_snoc (d : Nat) (x : V) : ∀ l : List V, V.pres d (l ++ [x]) = V.pres d l ++ V.pre d x
  | [] => by rw [List.nil_append, pres_cons, pres_nil, List.append_nil, List.nil_append]
  | v :: vs => by rw [List.cons_append, pres_cons, pres_cons, pres_snoc d x vs, List.append_assoc]
theorem pres_app (d : Nat) (b : List V) : ∀ l : List V, V.pres d (l ++ b) = V.pres d l ++ V.pres d b
  | [] => by rw [List.nil_append, pres_nil, List.nil_append]
  | v :: vs => by rw [List.cons_append, pres_cons, pres_cons, pres_app d b vs, List.append_assoc]
theorem pres_mem (d : Nat) (l : List V) (k : Nat) (h : k < l.length) : ∀ y ∈ V.pre d l[k], y ∈ V.pres d l := fun y hy => by
  have h1 : l = l.take k ++ (l[k] :: l.drop (k + 1)) := by rw [← List.drop_eq_getElem_cons h, List.take_append_drop]
  rw [h1, pres_app, pres_cons]
  exact List.mem_append_right _ (List.mem_append_left _ hy)
theorem ers_cons (v : V) (vs : List V) : ers (v :: vs) = er v :: ers vs := by rw [ers]
theorem cnts_cons (v : T) (vs : List T) : T.cnts (v :: vs) = v.cnt + T.cnts vs := by rw [T.cnts]
theorem cnts_nil : T.cnts [] = 0 := by rw [T.cnts]
theorem cnt_take (l : List V) (k : Nat) (h : k < l.length) : (V.pres 0 (l.take k)).length + (er l[k]).cnt ≤ T.cnts (ers l) := by
  have e : l.take (k + 1) = l.take k ++ [l[k]] := List.take_succ_eq_append_getElem h
  have h2 : l = l.take (k + 1) ++ l.drop (k + 1) := (List.take_append_drop _ _).symm
  have key : ∀ a b : List V, T.cnts (ers (a ++ b)) = T.cnts (ers a) + T.cnts (ers b) := by
    intro a b
    induction a with
    | nil => rw [List.nil_append, show ers [] = [] by rw [ers], cnts_nil]; omega
    | cons x xs ih => rw [List.cons_append, ers_cons, ers_cons, cnts_cons, cnts_cons, ih]; omega
  have h3 : T.cnts (ers l) = T.cnts (ers (l.take k)) + (er l[k]).cnt + T.cnts (ers (l.drop (k + 1))) := by
    conv => lhs; rw [h2, key, e, key]
    rw [ers_cons, cnts_cons, show ers [] = [] by rw [ers], cnts_nil]
    omega
  have h4 : (V.pres 0 (l.take k)).length = T.cnts (ers (l.take k)) := by rw [← T.pres_len 0, ← V.pres_er, List.length_map]
  omega
theorem pres_len (d : Nat) (l : List V) : (V.pres d l).length = (V.pres 0 l).length := by
  have h : ∀ d, (V.pres d l).length = T.cnts (ers l) := fun d => by rw [← T.pres_len d, ← V.pres_er, List.length_map]
  rw [h, h]
theorem ers_ht (l : List V) (k : Nat) (h : k < l.length) : (er l[k]).ht ≤ T.hts (ers l) := T.hts_ge _ _ (by rw [ers_map]; exact List.mem_map_of_mem (List.getElem_mem h))
set_option maxHeartbeats 4000000 in
theorem walkFrom_in (F : Fence) (hd : F.depth = none) (hFn : F.fn 47) (hro : F.round = none) (l n₀ N : Nat) (P : Nat × V → Prop) (J Jx : List (Nat × V) → World → Prop)
    (hJa : ∀ pre W W', J pre W → Below W.heap.size W W' → J pre W')
    (hY : ∀ m pre (x : Nat × V) W, J pre W → pre.length < N → P x → YieldAt F m Tryd.prog l #[.int .i64 (x.1 : Int), x.2.val] W fun e W' =>
      (e = .returned (.bool true) ∧ J (pre ++ [x]) W' ∧ KeepV n₀ W W') ∨ (e = .returned (.bool false) ∧ Jx (pre ++ [x]) W')) (v : V) :
    ∀ (n d : Nat) (pre : List (Nat × V)) (W : World), Lies (· < n₀) W v → n₀ ≤ W.heap.size → J pre W → pre.length + (er v).cnt ≤ N → d + (er v).ht ≤ 100000 → (∀ x ∈ v.pre d, P x) →
      CallsIn F n Tryd.prog 47 #[.int .i64 (d : Int), v.val, .func (.yield l) #[] #[]] W fun e W' =>
        (e = .returned (.bool true) ∧ J (pre ++ v.pre d) W' ∧ KeepV n₀ W W') ∨ (e = .returned (.bool false) ∧ ∃ q, q <+: v.pre d ∧ Jx (pre ++ q) W') := by
  have HJa := Lib.hid hJa
  have HY := Lib.hid hY
  clear hJa hY
  induction v using V.ind with
  | h k n t a cap ks ih =>
    have HIh := Lib.hid ih
    clear ih
    intro m d pre W hL hn hJ hN hdd hPx
    have HPx := Lib.hid hPx
    have hdn : ∀ k : Nat, (F.depth.isSome = true → 1 ≤ k) := fun k h => by rw [hd] at h; cases h
    have HL := Lib.hid hL
    have HN : Hid (pre.length + (1 + T.cnts (ers ks)) ≤ N ∧ d + (1 + T.hts (ers ks)) ≤ 100000 ∧ n₀ ≤ W.heap.size) := Lib.hid ⟨by unfold er T.cnt at hN; exact hN, by unfold er T.ht at hdd; exact hdd, hn⟩
    have hd1 : (d : Int) ≤ 99999 := by have := HN.out.2.1; omega
    rw [V.val_eq]
    obtain ⟨W1, hW1⟩ : ∃ W1, W.alloc (.cells #[.int .i64 k, .int .i64 n, .string t, .slice a ks.length cap] 24) = W1 := ⟨_, rfl⟩
    have hB1 : Below W.heap.size W W1 := by rw [← hW1]; exact (Below.refl _ _).alloc (Nat.le_refl _) _
    have hbox : W1.heap[W.heap.size]? = some (.cells #[.int .i64 k, .int .i64 n, .string t, .slice a ks.length cap] 24 (0, 0)) := by rw [← hW1]; exact World.alloc_heap_new W _
    have HB := Lib.hid (show KeepV n₀ W W1 ∧ W1.heap[W.heap.size]? = some (.cells #[.int .i64 k, .int .i64 n, .string t, .slice a ks.length cap] 24 (0, 0)) from ⟨KeepV.of_below hB1 hn, hbox⟩)
    obtain ⟨fn, tmps, assign, body, hy, hR⟩ := YieldAt.mono (R' := fun e W2 => (e = .returned (.bool true) ∧ Hid (J (pre ++ [(d, V.mk k n t a cap ks)]) W2) ∧ Hid (KeepV n₀ W W2) ∧ W2.cell? ⟨W.heap.size, 3, none⟩ = some (.slice a ks.length cap)) ∨ (e = .returned (.bool false) ∧ Hid (Jx (pre ++ [(d, V.mk k n t a cap ks)]) W2))) (HY.out (m - 1) pre (d, .mk k n t a cap ks) W1 (HJa.out _ _ _ hJ hB1) (by have := HN.out.1; omega) (HPx.out _ (by rw [V.pre_eq]; exact List.mem_cons_self))) (fun e W2 h => by
      rcases h with ⟨he, hj, hk⟩ | ⟨he, hj⟩
      · exact .inl ⟨he, Lib.hid hj, Lib.hid (HB.out.1.trans hk), (box4 (hk.2 _ _ _ HB.out.2)).2.2.2⟩
      · exact .inr ⟨he, Lib.hid hj⟩)
    have HR := Lib.hid hR
    simp only [V.val_eq] at hy
    have hsz : ks.length ≤ 9223372036854775807 := by
      have h3 := HL.out.ok
      have h4 : ks.length ≤ cap ∧ cap ≤ maxLen := ⟨h3.2.2.2.1, h3.2.2.2.2⟩
      unfold maxLen at h4
      omega
    obtain ⟨b0, b1, b2, b3⟩ := box4 hbox
    clear hR hJ hN hdd hL hB1 hbox hn hPx
    refine callsIn_of_wp Tryd.func47 rfl hFn ?_ hro
    simp only [Tryd.ntmps47, List.size_toArray, List.length_cons, List.length_nil, Nat.reduceAdd, Nat.reduceSub, Array.replicate_succ, Array.replicate_zero, List.push_toArray, List.append_toArray, List.nil_append, List.cons_append]
    gi_wp2_with ((try refine ⟨hdn _, ?_⟩); refine HR.out.mono ?_; clear HR; rintro e W2 (⟨rfl, HJ2, HK2, c3⟩ | ⟨rfl, HX⟩))
    · clear b0 b1 b2 b3 HB hy hW1
      gi_wp2
      gi_loopw [17] (fun i wr => ∃ j : Nat, i = .int .i64 (j : Int) ∧ j ≤ ks.length ∧ Hid (J (pre ++ [(d, V.mk k n t a cap ks)] ++ V.pres (d + 1) (ks.take j)) wr) ∧ Hid (KeepV n₀ W wr)) (fun i _ => ks.length - (intOf i).toNat)
      case atStart => exact ⟨0, rfl, Nat.zero_le _, by rw [List.take_zero, pres_nil, List.append_nil]; exact HJ2, HK2⟩
      case round =>
        obtain ⟨j, rfl, hj, HJj, HKj⟩ := hrel
        clear HJ2 HK2 c3
        by_cases hlt : j < ks.length
        · rcases HL.out.row with e | ⟨g, o, ea, hg, hr⟩
          · have e : ks = [] := e
            rw [e] at hlt
            simp at hlt
          · have ea : a = some ⟨g, o, none⟩ := ea
            have hr : Row (· < n₀) W g o ks := hr
            subst ea
            obtain ⟨hat, hli⟩ : At4 W g (o + 4 * j) ks[j] ∧ Lies (· < n₀) W ks[j] := hr.get j hlt
            have hmem : ks[j] ∈ ks := List.getElem_mem hlt
            have hcnt := cnt_take ks j hlt
            have hht := ers_ht ks j hlt
            have hmp : ∀ y ∈ V.pre (d + 1) ks[j], y ∈ V.pres (d + 1) ks := fun y hy => pres_mem (d + 1) ks j hlt y hy
            have htk : ks.take (j + 1) = ks.take j ++ [ks[j]] := List.take_succ_eq_append_getElem hlt
            have hnw : n₀ ≤ wr.heap.size := Nat.le_trans HN.out.2.2 HKj.out.1.size
            have hli3 : Lies (· < n₀) wr ks[j] := hli.below HKj.out.1
            obtain ⟨d0, d1, d2, d3⟩ := hat.same (HKj.out.1.block g hg)
            have hlap := hli.ok.2.2.2
            obtain ⟨x, hx⟩ : ∃ x, ks[j] = x := ⟨_, rfl⟩
            rw [hx] at hmem hcnt hht htk hli3 d0 d1 d2 d3 hlap hmp
            rw [show o + 4 * j = o + j * 4 by omega] at d0 d1 d2 d3
            have HTk := Lib.hid (fun _ : True => htk)
            have HSp : Hid (V.pres (d + 1) (V.mk k n t (some ⟨g, o, none⟩) cap ks).ks = V.pres (d + 1) (ks.take j) ++ (V.pre (d + 1) x ++ V.pres (d + 1) (ks.drop (j + 1)))) := Lib.hid (by
              have h1 : ks = ks.take j ++ (x :: ks.drop (j + 1)) := by rw [← hx, ← List.drop_eq_getElem_cons hlt, List.take_append_drop]
              show V.pres (d + 1) ks = _
              conv => lhs; rw [h1, pres_app, pres_cons])
            have HPr := Lib.hid (show V.pres (d + 1) (ks.take (j + 1)) = V.pres (d + 1) (ks.take j) ++ V.pre (d + 1) x from by rw [htk, pres_snoc])
            obtain ⟨W3, hW3⟩ : ∃ W3, wr.alloc (.cells #[.int .i64 x.k, .int .i64 x.n, .string x.t, .slice x.a x.ks.length x.cap] 24) = W3 := ⟨_, rfl⟩
            have hB3 : Below wr.heap.size wr W3 := by rw [← hW3]; exact (Below.refl _ _).alloc (Nat.le_refl _) _
            obtain ⟨b0, b1, b2, b3⟩ := box4 (show W3.heap[wr.heap.size]? = some (.cells #[.int .i64 x.k, .int .i64 x.n, .string x.t, .slice x.a x.ks.length x.cap] 24 (0, 0)) by rw [← hW3]; exact World.alloc_heap_new wr _)
            have hJ3 := HJa.out _ _ _ HJj.out hB3
            have HK3 := Lib.hid (HKj.out.trans (KeepV.of_below hB3 hnw))
            have HC := Lib.hid ((HIh.out x hmem (m - 1) (d + 1) _ W3 (hli3.below (hB3.mono hnw)) (Nat.le_trans hnw hB3.size) hJ3 (by rw [List.length_append, List.length_append, pres_len]; have := HN.out.1; simp only [List.length_cons, List.length_nil]; omega) (by have := HN.out.2.1; omega) (fun y hy => HPx.out y (by rw [V.pre_eq]; exact List.mem_cons_of_mem _ (hmp y hy)))).mono (R' := fun e W4 => (e = .returned (.bool true) ∧ Hid (J (pre ++ [(d, V.mk k n t (some ⟨g, o, none⟩) cap ks)] ++ V.pres (d + 1) (ks.take (j + 1))) W4) ∧ Hid (KeepV n₀ W W4)) ∨ (e = .returned (.bool false) ∧ Hid (∃ q, q <+: V.pre (d + 1) x ∧ Jx (pre ++ [(d, V.mk k n t (some ⟨g, o, none⟩) cap ks)] ++ V.pres (d + 1) (ks.take j) ++ q) W4))) (fun e W4 h => by
              rcases h with ⟨he, hj4, hk4⟩ | ⟨he, hx4⟩
              · exact .inl ⟨he, Lib.hid (by rw [HPr.out, ← List.append_assoc]; exact hj4), Lib.hid (HK3.out.trans hk4)⟩
              · exact .inr ⟨he, Lib.hid hx4⟩))
            have ed : (((d + 1 : Nat)) : Int) = (d : Int) + 1 := by omega
            unfold V.val at HC
            rw [ed] at HC
            clear ed hx hmp htk hr hat hli hg hmem hcnt hht hnw hli3 hB3 hJ3 HK3 HTk HKj HJj hlap
            gi_wp2_with ((try refine ⟨hdn _, ?_⟩); gi_at_call 47; refine HC.out.mono ?_; clear HC; rintro e W4 (⟨rfl, HJ4, HK4⟩ | ⟨rfl, HX4⟩))
            · go_roundw
              case rel => exact ⟨j + 1, by go_num, by omega, HJ4, HK4⟩
              case measure => simp [intOf]; omega
            · go_ret
              obtain ⟨q, ⟨r, hr⟩, hx⟩ := HX4.out
              refine .inr ⟨rfl, [(d, V.mk k n t (some ⟨g, o, none⟩) cap ks)] ++ V.pres (d + 1) (ks.take j) ++ q, ?_, by rw [← List.append_assoc, ← List.append_assoc]; exact hx⟩
              have e2 := HSp.out
              rw [V.pre_eq, e2, ← hr]
              exact ⟨r ++ V.pres (d + 1) (ks.drop (j + 1)), by simp⟩
        · obtain rfl : j = ks.length := by omega
          gi_wp2
          go_ret
          refine .inl ⟨rfl, ?_, HKj.out⟩
          have := HJj.out
          rw [List.take_length] at this
          rw [V.pre_eq, show (V.mk k n t a cap ks).ks = ks from rfl]
          simpa using this
    · clear b0 b1 b2 b3 HB hy hW1
      go_ret
      exact .inr ⟨rfl, [(d, .mk k n t a cap ks)], by rw [V.pre_eq]; exact ⟨_, rfl⟩, HX.out⟩
end Go.Proofs.YtpacjcgpeomnaaaDoor
