/- The walk of the law CrcOpens. -/
import Derived.Test.YtkaigmgnmdhngaaDoorRefOpen
namespace Go.Proofs.YtkaigmgnmdhngaaDoor
open Go.ChangeShapes Go.WideShapes Go.ChangeAt Go.RowKit Go.Joins
set_option linter.unusedVariables false

theorem mk_bytes0 (n : Nat) (hn : n ≤ 1000000) (w : World) : (Instr.makeSlice 22 (.int .i64 0) (.int .i64 (n : Int))).run Tryd.prog w = .ok (.slice (some ⟨w.heap.size, 0, none⟩) 0 n) (w.alloc (.cells (cells (List.replicate n 0)).toArray 5)) := by
  obtain ⟨i0, hi, hz0, hz1, hz2⟩ := info_parts info8
  have h := run_makeSlice (P := Tryd.prog) w 22 5 i0 (.int .u8 0) Tryd.underlying22 hi hz0 .i64 .i64 0 (n : Int) (by omega) (by omega) (by rw [hz1]; simp; omega) (by rw [hz2]; omega) (by omega)
  rw [hz1] at h
  simp only [Int.toNat_natCast, Nat.mul_one] at h
  have e : madeCells (Value.int .u8 0).cells n = (cells (List.replicate n 0)).toArray := by
    apply Array.ext
    · rw [size_madeCells]; simp [cells]
    · intro i h1 h2
      simp [madeCells, cells, Value.cells, Nat.mod_one]
  rw [e] at h
  exact h
/-- a builtin's call, its run known -/
theorem wpList_call_exact {P : Program} {w : World} {ops : Array Oper} {rest : List Oper} {o : Oper} {a : Act} {Q : Exit → Act → World → Prop} (hgd : o.guard = none) (s x : Operand) (t : TypeId)
    (ho : o.op = .call { callee := .builtin .append, args := #[s, x], argTypes := #[t, t] }) (v0 v1 v' : Value) (w' : World) (hs : a.eval s = v0) (hx : a.eval x = v1)
    (hrun : (Builtin.append_ #[t, t] o.type #[v0, v1]).run P w = .ok v' w') (h : wpList P ops Q rest (a.put o.dst v') w') : wpList P ops Q (o :: rest) a w := by
  refine wpList_plain hgd fun K hK => ?_
  unfold Oper.wp
  simp [execOp, ho, resolve, invoke, builtin, hs, hx, hrun, Result.andThen]
  exact hK _ _ h
/-- bytes put into a new row with room for nine more -/
theorem into_run (a0 : Option Addr) (m cap0 ty : Nat) (L : List Nat) (hL : L.length = m) (hm : m ≤ 3000) (w : World) (hS : Src w a0 L) (hA : (a0 = none ∧ cap0 = 0 ∧ m = 0) ∨ ∃ x, a0 = some x) :
    ∃ w2, (Builtin.append_ #[22, 22] ty #[.slice (some ⟨w.heap.size, 0, none⟩) 0 (m + 9), .slice a0 m cap0]).run Tryd.prog (w.alloc (.cells (cells (List.replicate (m + 9) 0)).toArray 5)) = .ok (.slice (some ⟨w.heap.size, 0, none⟩) m (m + 9)) w2 ∧
      Row w2 w.heap.size (m + 9) (L ++ List.replicate 9 0) ∧ Below w.heap.size w w2 := by
  obtain ⟨i0, hi, hz0, hz1, hz2⟩ := info_parts info8
  have hb1 := (Below.refl w.heap.size w).alloc (Nat.le_refl _) (.cells (cells (List.replicate (m + 9) 0)).toArray 5)
  rcases hA with ⟨rfl, rfl, rfl⟩ | ⟨x, rfl⟩
  · obtain rfl : L = [] := List.length_eq_zero_iff.1 hL
    refine ⟨_, run_append_owned_none (P := Tryd.prog) (w := w.alloc (.cells (cells (List.replicate (0 + 9) 0)).toArray 5)) w.heap.size 22 ty 5 i0 1 Tryd.underlying22 hi (.slice (some ⟨w.heap.size, 0, none⟩) 0 (0 + 9)) 0 [] (World.ownsRow_made w _ (0 + 9) (Nat.le_refl _) (by decide) (by simp [cells])), ⟨_, heap_alloc_new w _, by simp [cells], by simp, ?_⟩, hb1⟩
    simp [cells]
  · have hpos := src_pos (src_later hS hb1)
    have hr := run_append_room (P := Tryd.prog) (w.alloc (.cells (cells (List.replicate (m + 9) 0)).toArray 5)) 22 ty 5 i0 Tryd.underlying22 hi w.heap.size 0 (m + 9) _ (heap_alloc_new w _) x m cap0 (cells L) (by rw [cells_len, hL, hz1, Nat.mul_one]) (fun j u hu => by
      have hp : 0 < (cells L).length := by
        rcases Nat.eq_zero_or_pos (cells L).length with h | h
        · rw [List.length_eq_zero_iff.1 h] at hu; simp at hu
        · exact h
      obtain ⟨ad, e, h⟩ := hpos hp
      cases e
      exact h j u hu) (cells_one L) (by omega) (by rw [cells_len, hL]; simp [cells])
    rw [Nat.zero_add] at hr
    refine ⟨_, hr, ⟨_, setRow_heap _ _ _ _ _ _ (heap_alloc_new w _), ?_, by simp [hL], ?_⟩, below_setRow hb1 (Nat.le_refl _) _⟩
    · simp [cells, hL]
    · have e : (cells (L ++ List.replicate 9 0)) = cells L ++ cells (List.replicate 9 0) := by simp [cells]
      rw [e]
      refine (List.take_of_length_le ?_).trans ?_
      · simp [cells, hL]
      · simp [cells, hL, Nat.zero_mul]
theorem open_yes (sp : Option Addr) (cap : Nat) (L : List Nat) (n : Nat) (hL : L.length = n + 4) (hn : n ≤ 4000) (hcap : n + 4 ≤ cap) (hB : ∀ b ∈ L, b < 256) (hO : Opens L) (w : World) (ht : Hid (Tab w)) (hS : Hid (Src w sp L)) :
    Calls Tryd.prog 14 #[.slice sp (n + 4) cap] w fun e w' => ∃ g, e = .returned (.tuple #[.slice (some ⟨g, 0, none⟩) n n, .bool true]) ∧ Hid (w.heap.size ≤ g) ∧ Hid (Row w' g n (L.take n)) ∧ Hid (Below w.heap.size w w') := by
  have h := open_any sp cap L (by omega) (by omega) (by omega) hB w ht hS
  rw [hL] at h
  refine h.mono fun e w' ⟨hb, hh⟩ => ?_
  rcases hh with ⟨hn, _⟩ | ⟨_, g, h1, h2, h3⟩
  · exact absurd hO hn
  · rw [show n + 4 - 4 = n by omega] at h1 h3
    have hl : (L.take n).length = n := by rw [List.length_take]; omega
    refine ⟨g, h1, Lib.hid h2, Lib.hid ⟨_, h3, ?_, ?_, ?_⟩, Lib.hid hb⟩
    · simp [cells, hL]
    · omega
    · rw [List.toList_toArray]
      exact List.take_of_length_le (by rw [cells_len]; omega)
/-- Open, and the document's, of whatever bytes: alike -/
theorem open_both (sp : Option Addr) (cap : Nat) (L : List Nat) (m : Nat) (hL : L.length = m) (hn : m ≤ 4000) (hcap : m ≤ cap) (hB : ∀ b ∈ L, b < 256) :
    ∃ (y : ByteArray) (ob : Bool),
      (∀ w, Hid (Tab w) → Hid (Src w sp L) → Calls Tryd.prog 14 #[.slice sp m cap] w fun e w' => ∃ px nx, e = .returned (.tuple #[.slice px nx nx, .bool ob]) ∧ Hid (∀ W, Below w'.heap.size w' W → (convert 22 9 (.slice px nx nx)).run Tryd.prog W = .ok (.string y) W) ∧ Hid (Below w.heap.size w w')) ∧
      (∀ w, Calls Tryd.prog 15 #[.string (sv L)] w fun e w' => e = .returned (.tuple #[.string y, .bool ob]) ∧ Below w.heap.size w w') := by
  have hnil : ∀ W, (convert 22 9 (.slice none 0 0)).run Tryd.prog W = .ok (.string ⟨#[]⟩) W := fun W => src_conv0 (w := W) (a0 := none) (L := []) (fun h => absurd h (by simp)) 0 (fun _ => rfl)
  by_cases hO : Opens L
  · have h4 := hO.1
    obtain ⟨n, rfl⟩ : ∃ n, m = n + 4 := ⟨m - 4, by omega⟩
    refine ⟨_, true, fun w ht hS => ?_, fun w => refOpen_opens L (by omega) hB hO w⟩
    refine (open_yes sp cap L n hL (by omega) hcap hB hO w ht hS).mono fun e w' ⟨g, h1, h2, h3, h4⟩ => ⟨_, _, h1, Lib.hid fun W hb => ?_, h4⟩
    have e1 : openT L = L.take n := by unfold openT; rw [hL, show n + 4 - 4 = n by omega]
    have hl : (L.take n).length = n := by rw [List.length_take]; omega
    have := src_conv0 (row_srcs (row_later h3.out hb)) n (fun h => by cases h)
    rw [hl] at this
    rw [e1]
    exact this
  · refine ⟨_, false, fun w ht hS => ?_, fun w => refOpen_not L (by omega) hB hO w⟩
    by_cases h4 : 4 ≤ L.length
    · have h := open_any sp cap L h4 (by omega) (by omega) hB w ht hS
      rw [hL] at h
      refine h.mono fun e w' ⟨hb, hh⟩ => ?_
      rcases hh with ⟨_, rfl⟩ | ⟨hy, _⟩
      · exact ⟨none, 0, rfl, Lib.hid fun W _ => hnil W, Lib.hid hb⟩
      · exact absurd hy hO
    · have h := open_no sp cap L (by omega) w
      rw [hL] at h
      refine h.mono fun e w' ⟨h1, h2⟩ => ?_
      subst h2
      exact ⟨none, 0, h1, Lib.hid fun W _ => hnil W, Lib.hid (Below.refl _ _)⟩
end Go.Proofs.YtkaigmgnmdhngaaDoor
