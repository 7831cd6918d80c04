/- Contract of Barrier; the other ways of Write. -/
import Derived.Test.YtmojieomdbfjcaaWrite
namespace Go.Proofs.Ytmojieomdbfjcaa
open Go.ChangeShapes Go.WideShapes Go.ChangeAt Go.RowKit

/-- what waits, as cells -/
def wcells (W : List (Nat × ByteArray)) : List Value := W.flatMap fun x => [Value.int .i64 (x.1 : Int), Value.string x.2]
/-- sectors behind writes -/
def setAll (ys : List Value) (W : List (Nat × ByteArray)) : List Value := W.foldl (fun l x => l.set x.1 (.string x.2)) ys
theorem setAll_len (ys : List Value) (W : List (Nat × ByteArray)) : (setAll ys W).length = ys.length := by
  unfold setAll
  induction W generalizing ys with
  | nil => rfl
  | cons x t ih => rw [List.foldl_cons, ih, List.length_set]
theorem setAll_snoc (ys : List Value) (W : List (Nat × ByteArray)) (k : Nat) (hk : k < W.length) : setAll ys (W.take (k + 1)) = (setAll ys (W.take k)).set W[k].1 (.string W[k].2) := by
  unfold setAll
  rw [List.take_add_one, List.getElem?_eq_getElem hk, List.foldl_append]
  rfl
theorem wcells_len (W : List (Nat × ByteArray)) : (wcells W).length = W.length * 2 := by
  unfold wcells
  induction W with
  | nil => rfl
  | cons x t ih => rw [List.flatMap_cons, List.length_append, ih, List.length_cons]; simp; omega
theorem wcells_get (W : List (Nat × ByteArray)) (k : Nat) (hk : k < W.length) : (wcells W)[k * 2]? = some (Value.int .i64 (W[k].1 : Int)) ∧ (wcells W)[k * 2 + 1]? = some (Value.string W[k].2) := by
  induction W generalizing k with
  | nil => simp at hk
  | cons x t ih =>
    cases k with
    | zero => exact ⟨rfl, rfl⟩
    | succ k =>
      have := ih k (by simpa using hk)
      have e1 : (k + 1) * 2 = k * 2 + 1 + 1 := by omega
      rw [e1]
      simpa [wcells] using this

/-- while what waits is made to last -/
structure BInv (w wr : World) (g : Nat) (vn vw : Value) (st : Int) (ar : Bool) (le : Int) (gl L C : Nat) (ys : List Value) (W : List (Nat × ByteArray)) (k : Nat) : Prop where
  head : Head wr g vn (.slice (some ⟨gl, 0, none⟩) L C) vw st ar le false
  own : wr.ownsRow 0 58 2 vw W.length (wcells W)
  rows : wr.ownsRow 0 9 1 (.slice (some ⟨gl, 0, none⟩) L C) L (setAll ys (W.take k))
  only : Only (fun b => b = g ∨ b = gl) w wr

theorem new0 (w : World) (a b : Value) (t : TypeId) : (w.alloc (.cells #[a, b] t)).cell? ⟨w.heap.size, 0, none⟩ = some a := by rw [World.cell?_alloc_mark]; rfl
theorem new1 (w : World) (a b : Value) (t : TypeId) : (w.alloc (.cells #[a, b] t)).cell? ⟨w.heap.size, 1, none⟩ = some b := by rw [World.cell?_alloc_mark]; rfl
theorem binv_round {w wr : World} {g : Nat} {vn vw : Value} {st : Int} {ar : Bool} {le : Int} {gl L C : Nat} {ys : List Value} {W : List (Nat × ByteArray)} {k : Nat} (h : BInv w wr g vn vw st ar le gl L C ys W k) (hne : vw.ownBlock ≠ some g ∧ vw.ownBlock ≠ some gl ∧ gl ≠ g)
    (n : Nat) (s : ByteArray) (hs : setAll ys (W.take (k + 1)) = (setAll ys (W.take k)).set n (.string s)) (o : Obj) : BInv w ((wr.alloc o).setCell ⟨gl, n, none⟩ (.string s)).drew g vn vw st ar le gl L C ys W (k + 1) := by
  have hA : Only (fun _ => False) wr (wr.alloc o) := (Only.refl _ wr).alloc o
  have hS : Only (· = gl) (wr.alloc o) ((wr.alloc o).setCell ⟨gl, n, none⟩ (.string s)).drew := (only_set (Only.refl _ _) n _).drew
  refine ⟨head_only (head_only h.head hA fun x => x) hS fun x => hne.2.2 x.symm, own_only (own_only h.own hA fun _ _ x => x) hS fun k' hk e => hne.2.1 (by rw [hk, e]), ?_, (h.only.trans (hA.mono fun _ _ x => x.elim)).trans (hS.mono fun _ _ x => .inr x)⟩
  rw [hs]
  exact (World.ownsRow.stored (own_only h.rows hA fun _ _ x => x) n _).1

section
variable (g : Nat) (vn : Value) (st : Int) (ar : Bool) (le : Int) (w : World)
set_option maxRecDepth 20000 in
theorem barrier_ok (le' : Int) (hle : le' = if ar = true then le - 1 else le) (ao : Option Addr) (cw : Nat) (W : List (Nat × ByteArray)) (m : Nat) (hmW : W.length = m) (hm : m ≤ 1000000) (gl L C : Nat) (ys : List Value)
    (hown : Hid (w.ownsRow 0 58 2 (.slice ao m cw) W.length (wcells W))) (hneg : Hid ((Value.slice ao m cw).ownBlock ≠ some g ∧ (Value.slice ao m cw).ownBlock ≠ some gl ∧ gl ≠ g))
    (hin : Hid (∀ x ∈ W, x.1 < L)) (hN : Hid (w.ownsRow 0 9 1 (.slice (some ⟨gl, 0, none⟩) L C) L ys)) (h0 : 0 ≤ le) (h1 : le ≤ 9223372036854775807) (h2 : 0 ≤ st) (h3 : st ≤ 1000000000)
    (hb : Hid (Head w g vn (.slice (some ⟨gl, 0, none⟩) L C) (.slice ao m cw) st ar le false)) (hd : ¬ (ar = true ∧ le = 0)) :
    Calls Try.prog 10 #[.pointer (some ⟨g, 0, none⟩)] w fun e w' => e = .returned (.int .i64 0) ∧
      Head w' g vn (.slice (some ⟨gl, 0, none⟩) L C) (.slice none 0 0) (st + 1) ar le' false ∧ w'.ownsRow 0 9 1 (.slice (some ⟨gl, 0, none⟩) L C) L (setAll ys W) ∧ Only (fun b => b = g ∨ b = gl) w w' := by
  have HC0 := change_ok g vn (.slice (some ⟨gl, 0, none⟩) L C) (.slice ao m cw) st ar le w h0 h1 h2 h3 hb hd
  rw [← hle] at HC0
  clear hle
  have HC := Lib.hid HC0
  clear HC0
  have HmW := Lib.hid (fun _ : True => hmW)
  clear hmW
  go_enter Try.func10, Try.ntmps10
  go_wp2_with fail
  refine HC.out.mono ?_
  rintro e w1 ⟨rfl, hb1, ho1⟩
  have hI0 : Hid (BInv w w1 g vn (.slice ao m cw) (st + 1) ar le' gl L C ys W 0) := Lib.hid ⟨hb1, own_only hown.out ho1 fun k hk e => hneg.out.1 (by rw [hk, e]), own_only hN.out ho1 fun k hk e => hneg.out.2.2 (by cases hk; exact e), ho1.mono fun _ _ h => .inl h⟩
  have hc2 := head2 hb1
  clear hb1 ho1
  go_wp2_with fail
  go_loopw [18] (fun i wr => ∃ k : Nat, i = .int .i64 (k : Int) ∧ k ≤ m ∧ Hid (BInv w wr g vn (.slice ao m cw) (st + 1) ar le' gl L C ys W k)) (fun i _ => m - (intOf i).toNat)
  case atStart => exact ⟨0, rfl, by omega, hI0⟩
  case round =>
    obtain ⟨k, rfl, hkm, hI⟩ := hrel
    clear hI0 hc2
    by_cases hk : k < m
    · have hkW : k < W.length := by rw [HmW.out trivial]; exact hk
      have hII := hI.out
      obtain ⟨gw, rfl⟩ : ∃ gw, ao = some ⟨gw, 0, none⟩ := by
        rcases hII.own.2 with ⟨h, h'⟩ | ⟨gw, cap, cur, h, _⟩
        · omega
        · cases h; exact ⟨gw, rfl⟩
      have hown' := hII.own
      rw [HmW.out trivial] at hown'
      have c0 : wr.cell? ⟨gw, k * 2, none⟩ = some (Value.int .i64 (W[k].1 : Int)) := by rw [World.ownsRow.cellAt hown' (k * 2) (by omega)]; exact (wcells_get W k hkW).1
      have c1 : wr.cell? ⟨gw, k * 2 + 1, none⟩ = some (Value.string W[k].2) := by rw [World.ownsRow.cellAt hown' (k * 2 + 1) (by omega)]; exact (wcells_get W k hkW).2
      have hnL := Lib.hid (hin.out _ (List.getElem_mem hkW))
      have hset := Lib.hid (fun _ : True => setAll_snoc ys W k hkW)
      generalize W[k].1 = n at *
      generalize W[k].2 = s at *
      have hA : Only (fun _ => False) wr (wr.alloc (Obj.cells #[Value.int IntKind.i64 (n : Int), Value.string s] 58)) := (Only.refl _ wr).alloc _
      have d1 := head1 (head_only hII.head hA fun x => x)
      have hr := own_only hII.rows hA fun _ _ x => x
      have fn := World.ownsRow.frozenAt hr n
      obtain ⟨x, cn⟩ : ∃ x, (wr.alloc (Obj.cells #[Value.int IntKind.i64 (n : Int), Value.string s] 58)).cell? ⟨gl, n, none⟩ = some x := by
        rw [World.ownsRow.cellAt hr n (by have := hnL.out; omega)]
        exact ⟨_, List.getElem?_eq_getElem (by have := hII.rows.1; have := hnL.out; omega)⟩
      have hnext := Lib.hid (binv_round hII hneg.out n s (hset.out trivial) (Obj.cells #[Value.int IntKind.i64 (n : Int), Value.string s] 58))
      have hi0 : (0 : Int) ≤ (n : Int) := Int.natCast_nonneg n
      have hi1 : (n : Int) < (L : Int) := by have := hnL.out; omega
      have c80 : (wr.alloc (Obj.cells #[Value.int IntKind.i64 (n : Int), Value.string s] 58)).cell? ⟨wr.heap.size, 0, none⟩ = some (Value.int IntKind.i64 (n : Int)) := new0 _ _ _ _
      have c81 : (wr.alloc (Obj.cells #[Value.int IntKind.i64 (n : Int), Value.string s] 58)).cell? ⟨wr.heap.size, 1, none⟩ = some (Value.string s) := new1 _ _ _ _
      clear hII hown' hA hr
      go_wp2_with fail
      generalize (wr.alloc (Obj.cells #[Value.int IntKind.i64 (n : Int), Value.string s] 58)) = w2 at *
      go_region
      all_goals go_wp2_with fail
      all_goals go_roundw
      case rel => exact ⟨k + 1, by go_num, by omega, hnext⟩
      case measure => simp [intOf]; omega
    · obtain rfl : m = k := by omega
      have hII := hI.out
      have d2 := head2 hII.head
      have f2 := head_free (i := 2) hII.head
      have hfin := Lib.hid (And.intro (head_set2 hII.head (.slice none 0 0)) (And.intro hII.rows hII.only))
      clear hII
      go_wp2_with fail
      go_ret
      obtain ⟨a, b, c⟩ := hfin.out
      rw [List.take_of_length_le (by rw [HmW.out trivial]; exact Nat.le_refl _)] at b
      have hS : Only (· = g) wr (wr.setCell ⟨g, 2, none⟩ (.slice none 0 0)) := only_set (Only.refl _ _) 2 _
      exact ⟨rfl, a, own_only b hS fun k' hk e => hneg.out.2.2 (by cases hk; exact e), c.trans (hS.mono fun _ _ x => .inl x)⟩
end
end Go.Proofs.Ytmojieomdbfjcaa
