/- DiskKeeps: what its walk is told. -/
import Derived.Test.YtmojieomdbfjcaaKeepM
import Derived.Test.YtmojieomdbfjcaaSteps
namespace Go.Proofs.Ytmojieomdbfjcaa
open Go.ChangeShapes Go.WideShapes Go.ChangeAt Go.RowKit

def textsOf (f : Nat → Nat) : List Value := (List.range 8).map fun n => Value.string (secS (f n : Int))
def bytesOf8 (f : Nat → Nat) : List Value := (List.range 8).map fun n => Value.int .u8 (f n : Int)
def upd (f : Nat → Nat) (n x : Nat) : Nat → Nat := fun m => if m = n then x else f m
theorem map_upd (h : Nat → Value) (n : Nat) (v : Value) : ((List.range 8).map h).set n v = (List.range 8).map (fun m => if m = n then v else h m) := by
  apply List.ext_getElem (by simp)
  intro i h1 h2
  simp only [List.getElem_set, List.getElem_map, List.getElem_range]
  by_cases e : n = i
  · simp [e]
  · simp [e, Ne.symm e]
theorem texts_upd (f : Nat → Nat) (n x : Nat) : (textsOf f).set n (.string (secS (x : Int))) = textsOf (upd f n x) := by
  unfold textsOf
  rw [map_upd]
  refine List.map_congr_left fun m _ => ?_
  unfold upd
  split <;> rfl
theorem bytes_upd (f : Nat → Nat) (n x : Nat) : (bytesOf8 f).set n (.int .u8 (x : Int)) = bytesOf8 (upd f n x) := by
  unfold bytesOf8
  rw [map_upd]
  refine List.map_congr_left fun m _ => ?_
  unfold upd
  split <;> rfl
def WasAt (w : World) (q : Nat) (f : Nat → Nat) : Prop := ∃ T, w.heap[q]? = some (.cells (bytesOf8 f).toArray T (0, 0))
theorem was_cell {w : World} {q : Nat} {f : Nat → Nat} (h : WasAt w q f) (n : Nat) (hn : n < 8) : w.cell? ⟨q, n, none⟩ = some (.int .u8 (f n : Int)) := by
  obtain ⟨T, h⟩ := h
  have e : w.cell? ⟨q, n, none⟩ = (bytesOf8 f).toArray[n]? := by simp [World.cell?, h]
  rw [e]
  simp [bytesOf8, hn]
theorem was_free {w : World} {q : Nat} {f : Nat → Nat} (h : WasAt w q f) (n : Nat) : w.frozen? ⟨q, n, none⟩ = false := by
  obtain ⟨T, h⟩ := h
  simp [World.frozen?, h]
theorem was_set {w : World} {q : Nat} {f : Nat → Nat} (h : WasAt w q f) (n x : Nat) : WasAt (w.setCell ⟨q, n, none⟩ (.int .u8 (x : Int))) q (upd f n x) := by
  obtain ⟨T, h⟩ := h
  refine ⟨T, ?_⟩
  rw [← bytes_upd]
  simp [World.setCell, Array.getElem?_modify, h]
theorem was_same {w w' : World} {q : Nat} {f : Nat → Nat} (h : WasAt w q f) (e : w'.heap[q]? = w.heap[q]?) : WasAt w' q f := by
  obtain ⟨T, h⟩ := h
  exact ⟨T, e.trans h⟩
theorem side_below {w w' : World} {q g gn gl : Nat} {vw : Value} (h : Side w q g gn gl vw) (hb : Below w.heap.size w w') : Side w' q g gn gl vw ∧ w'.heap[q]? = w.heap[q]? :=
  ⟨⟨h.1, h.2.1, h.2.2.1, h.2.2.2.1, Nat.lt_of_lt_of_le h.2.2.2.2 hb.size⟩, hb.block q h.2.2.2.2⟩
theorem side_set {B : Nat} {w : World} {q g gn gl L cn cl : Nat} {vw : Value} {ns ls : List Value} {W : List (Nat × ByteArray)} {st : Int} {ar : Bool} {le : Int} {off : Bool} (hs : Side w q g gn gl vw) (h : DkAt B w g gn gl L cn cl vw ns ls W st ar le off) (n : Nat) (u : Value) :
    DkAt B (w.setCell ⟨q, n, none⟩ u) g gn gl L cn cl vw ns ls W st ar le off ∧ Side (w.setCell ⟨q, n, none⟩ u) q g gn gl vw := by
  have ho : Only (· = q) w (w.setCell ⟨q, n, none⟩ u) := only_set (Only.refl _ w) n u
  exact ⟨⟨head_only h.head ho fun e => hs.1 e.symm, own_only h.now ho fun k hk e => by cases hk; exact hs.2.1 e.symm, own_only h.rows ho fun k hk e => by cases hk; exact hs.2.2.1 e.symm, own_only h.own ho fun k hk e => hs.2.2.2.1 (by rw [hk, e]), h.ge, h.ne⟩,
    ⟨hs.1, hs.2.1, hs.2.2.1, hs.2.2.2.1, Nat.lt_of_lt_of_le hs.2.2.2.2 ho.size⟩⟩
/-- the writes behind the barrier -/
def W2 (mo : Nat → Nat) (k : Nat) : List (Nat × ByteArray) := (List.range k).map fun j => (j * 3 % 8, secS (mo j : Int))
theorem W2_len (mo : Nat → Nat) (k : Nat) : (W2 mo k).length = k := by simp [W2]
theorem W2_snoc (mo : Nat → Nat) (k : Nat) : W2 mo k ++ [(k * 3 % 8, secS (mo k : Int))] = W2 mo (k + 1) := by simp [W2, List.range_succ]
theorem W2_lt (mo : Nat → Nat) (k : Nat) : ∀ x ∈ W2 mo k, x.1 < 8 := by
  intro x hx
  obtain ⟨j, _, rfl⟩ := List.mem_map.1 hx
  exact Nat.mod_lt _ (by decide)
theorem W2_get (mo : Nat → Nat) (k j : Nat) (hj : j < k) : (W2 mo k).getD j (0, ByteArray.empty) = (j * 3 % 8, secS (mo j : Int)) := by simp [W2, List.getD, hj]

structure K1 (w wr : World) (g gn gl cn cl q k : Nat) : Prop where
  all : ∃ vw W f, DkAt w.heap.size wr g gn gl 8 cn cl vw (textsOf f) (textsOf fun _ => 0) W (k : Int) false 0 false ∧ setAll (textsOf fun _ => 0) W = textsOf f ∧ (∀ x ∈ W, x.1 < 8) ∧ W.length ≤ k ∧ Side wr q g gn gl vw ∧ WasAt wr q f ∧ ∀ n, f n < 256
  below : Below w.heap.size w wr
structure K2 (w wr : World) (g gn gl cn cl q : Nat) (f mo : Nat → Nat) (k : Nat) : Prop where
  all : ∃ vw st, DkAt w.heap.size wr g gn gl 8 cn cl vw (setAll (textsOf f) (W2 mo k)) (textsOf f) (W2 mo k) st false 0 false ∧ 0 ≤ st ∧ st ≤ 41 + (k : Int) ∧ Side wr q g gn gl vw
  was : WasAt wr q f
  below : Below w.heap.size w wr
theorem zeros_texts : List.replicate 8 (Value.string zeros) = textsOf fun _ => 0 := by
  rw [zeros_sec]
  rfl
theorem keep_fin (f mo : Nat → Nat) (k : Nat) (F : Nat → Bool) (hf : ∀ n, f n < 256) (hmo : ∀ n, mo n < 256) (n : Nat) (hn : n < 8) :
    ∃ x : Nat, x < 256 ∧ (nowTo (setAll (textsOf f) (W2 mo k)) (pickTo (textsOf f) (W2 mo k) F (W2 mo k).length) (W2 mo k) (W2 mo k).length)[n]? = some (.string (secS (x : Int))) ∧ (x = f n ∨ ∃ j, j < k ∧ j * 3 % 8 = n ∧ mo j = x) := by
  rcases keep_get (textsOf f) (W2 mo k) F n (by simp [textsOf]; exact hn) with h | ⟨j, hj, h1, h2⟩
  · exact ⟨f n, hf n, by rw [h]; simp [textsOf, hn], .inl rfl⟩
  · rw [W2_len] at hj
    rw [W2_get mo k j hj] at h1 h2
    exact ⟨mo j, hmo j, h2, .inr ⟨j, hj, h1, rfl⟩⟩
theorem allStr_texts (f : Nat → Nat) : AllStr (textsOf f) := by
  intro v hv
  obtain ⟨n, _, rfl⟩ := List.mem_map.1 hv
  exact ⟨_, rfl⟩
def mayOf (f mo : Nat → Nat) (n x : Nat) : Nat → Bool
  | 0 => decide (x = f n)
  | j + 1 => mayOf f mo n x j || (decide (j * 3 % 8 = n) && decide (mo j = x))
theorem mayOf_true (f mo : Nat → Nat) (n x : Nat) : ∀ k, (x = f n ∨ ∃ j, j < k ∧ j * 3 % 8 = n ∧ mo j = x) → mayOf f mo n x k = true
  | 0, h => by
    rcases h with h | ⟨j, hj, _⟩
    · simp [mayOf, h]
    · omega
  | k + 1, h => by
    unfold mayOf
    rcases h with h | ⟨j, hj, h1, h2⟩
    · rw [mayOf_true f mo n x k (.inl h)]; rfl
    · by_cases e : j = k
      · subst e; simp [h1, h2]
      · rw [mayOf_true f mo n x k (.inr ⟨j, by omega, h1, h2⟩)]; rfl
structure K3 (w wr : World) (g gn gl cn cl q : Nat) (f : Nat → Nat) (nv : List Value) : Prop where
  all : ∃ st lv, DkAt w.heap.size wr g gn gl 8 cn cl (.slice none 0 0) nv lv [] st false 0 false
  side : Side wr q g gn gl (.slice none 0 0)
  was : WasAt wr q f
  below : Below w.heap.size w wr
theorem k3_below {w wr wr' : World} {g gn gl cn cl q : Nat} {f : Nat → Nat} {nv : List Value} (h : K3 w wr g gn gl cn cl q f nv) (hb : Below wr.heap.size wr wr') : K3 w wr' g gn gl cn cl q f nv := by
  obtain ⟨st, lv, hD⟩ := h.all
  exact ⟨⟨st, lv, hD.below hb⟩, (side_below h.side hb).1, was_same h.was (side_below h.side hb).2, h.below.trans (hb.mono h.below.size)⟩
theorem b_conv {w V : World} {b cp : Nat} {x : Int} (h : ∀ j, j < 512 → w.cell? ⟨b, j, none⟩ = some (.int .u8 x)) (hb : Below w.heap.size w V) : (convert 22 9 (.slice (some ⟨b, 0, none⟩) 512 cp)).run Try.prog V = .ok (.string (secS x)) V :=
  run_convert_bytes_arg (P := Try.prog) V 22 5 Try.underlying22 Try.underlying5 b 0 512 cp (List.replicate 512 x) List.length_replicate (fun i hi => by
    rw [Nat.zero_add, hb.cell (World.block_lt_of_cell? w _ (h i hi)), h i hi, rep_getD 512 i x hi]) 9 Try.underlying9
end Go.Proofs.Ytmojieomdbfjcaa
