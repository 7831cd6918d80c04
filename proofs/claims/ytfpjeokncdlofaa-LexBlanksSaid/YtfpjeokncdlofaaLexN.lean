/- The scanner of package lex: a token. -/
import Derived.Test.YtfpjeokncdlofaaLexM
namespace Go.Proofs.Ytfpjeokncdlofaa
open Go.ChangeShapes Go.WideShapes Go.ChangeAt Go.RowKit Go.Joins
open Go.Proofs.Ytfpjeokncdlofaa.Fn (st st_size st_list st_extract)
set_option linter.unusedVariables false
set_option maxRecDepth 20000

/-- a token: its place, its kind, its number, its text -/
abbrev Tok := (Nat × Nat) × Int × Int × List UInt8
def Tok.v (k : Tok) : Value := tokV k.1 k.2.1 k.2.2.1 k.2.2.2
/-- the token that begins here, what is behind it, and its place; or what is wrong -/
def tokS : List UInt8 → Nat × Nat → Except (Nat × Nat) (Tok × List UInt8 × (Nat × Nat))
  | [], p => .error p
  | c :: t, p =>
    if c = 40 then .ok ((p, 0, 0, []), t, adv c p)
    else if c = 41 then .ok ((p, 1, 0, []), t, adv c p)
    else if c = 34 then match strS p t.length t (adv 34 p) [] with
      | .ok (b, l, q) => .ok ((p, 4, 0, b), l, q)
      | .error r => .error r
    else match wordS (wordB (c :: t) p).1 with
      | some (k, n, b) => .ok ((p, k, n, b), (wordB (c :: t) p).2)
      | none => .error p
/-- the two blocks that a token's call makes, as they were -/
def KeptK (w w9 : World) (a b : Int) : Prop :=
    w9.cell? ⟨w.heap.size + 1, 0, none⟩ = some (.int .i64 a) ∧ w9.cell? ⟨w.heap.size + 1, 1, none⟩ = some (.int .i64 b) ∧
    (w9.cell? ⟨w.heap.size, 0, none⟩ = some (.int .i64 0) ∧ w9.cell? ⟨w.heap.size, 1, none⟩ = some (.int .i64 0) ∧ w9.cell? ⟨w.heap.size, 2, none⟩ = some (.int .i64 0) ∧ w9.cell? ⟨w.heap.size, 3, none⟩ = some (.int .i64 0) ∧ w9.cell? ⟨w.heap.size, 4, none⟩ = some (.string ⟨#[]⟩)) ∧
    (w9.frozen? ⟨w.heap.size, 0, none⟩ = false ∧ w9.frozen? ⟨w.heap.size, 1, none⟩ = false ∧ w9.frozen? ⟨w.heap.size, 2, none⟩ = false ∧ w9.frozen? ⟨w.heap.size, 3, none⟩ = false ∧ w9.frozen? ⟨w.heap.size, 4, none⟩ = false)
/-- the world within a token's call: but for the scanner all is as it was, and the two blocks are -/
def InTok (w : World) (g : Nat) (a b : Int) (W : World) : Prop := Only (· = g) w W ∧ g < w.heap.size ∧
    W.heap[w.heap.size]? = some (.cells #[.int .i64 0, .int .i64 0, .int .i64 0, .int .i64 0, .string ⟨#[]⟩] 44 (0, 0)) ∧
    W.heap[w.heap.size + 1]? = some (.cells #[.int .i64 a, .int .i64 b] 25 (0, 0))
theorem InTok.kept {w W : World} {g : Nat} {a b : Int} (h : InTok w g a b W) : KeptK w W a b := by
  obtain ⟨_, _, h1, h2⟩ := h
  refine ⟨?_, ?_, ⟨?_, ?_, ?_, ?_, ?_⟩, ⟨?_, ?_, ?_, ?_, ?_⟩⟩
  · rw [cell_of_block h2]; rfl
  · rw [cell_of_block h2]; rfl
  · rw [cell_of_block h1]; rfl
  · rw [cell_of_block h1]; rfl
  · rw [cell_of_block h1]; rfl
  · rw [cell_of_block h1]; rfl
  · rw [cell_of_block h1]; rfl
  all_goals exact unfrozen_of_block h1 _
theorem InTok.made (w : World) (g : Nat) (a b : Int) (hg : g < w.heap.size) (m : Nat) :
    InTok w g a b (((w.alloc (.cells #[.int .i64 0, .int .i64 0, .int .i64 0, .int .i64 0, .string ⟨#[]⟩] 44)).alloc (.cells #[.int .i64 a, .int .i64 b] 25)).drewN m) := by
  refine ⟨Only.of_below (below_start w _ _ m), hg, ?_, ?_⟩
  · show ((w.heap.push _).push _)[w.heap.size]? = _
    rw [Array.getElem?_push, if_neg (by simp), Array.getElem?_push_size]
  · show ((w.heap.push _).push _)[w.heap.size + 1]? = _
    rw [Array.getElem?_push, if_pos (by simp)]
theorem InTok.go {w W W2 : World} {g : Nat} {a b : Int} (h : InTok w g a b W) (ho : Only (· = g) W W2) : InTok w g a b W2 := by
  obtain ⟨h0, hg, h1, h2⟩ := h
  refine ⟨h0.trans ho, hg, ?_, ?_⟩
  · rw [ho.block _ (Array.getElem?_eq_some_iff.1 h1).1 (by omega)]; exact h1
  · rw [ho.block _ (Array.getElem?_eq_some_iff.1 h2).1 (by omega)]; exact h2
theorem only_new {a w : World} {g : Nat} (h : Only (· = g) a w) (i : Nat) (u : Value) : Only (· = g) a (w.setCell ⟨a.heap.size, i, none⟩ u) :=
  ⟨h.os, h.tape, h.output, Nat.le_trans h.size (by simp [World.setCell]), fun k hk hs => (Below.heap_setCell _ _ _ _ (Nat.ne_of_lt hk)).trans (h.block k hk hs)⟩
theorem only_new5 {a w : World} {g : Nat} (h : Only (· = g) a w) (u0 u1 u2 u3 u4 : Value) : Only (· = g) a (((((w.setCell ⟨a.heap.size, 0, none⟩ u0).setCell ⟨a.heap.size, 1, none⟩ u1).setCell ⟨a.heap.size, 2, none⟩ u2).setCell ⟨a.heap.size, 3, none⟩ u3).setCell ⟨a.heap.size, 4, none⟩ u4) :=
  only_new (only_new (only_new (only_new (only_new h 0 u0) 1 u1) 2 u2) 3 u3) 4 u4
theorem sc_new5 {a w : World} {g : Nat} {l : List UInt8} {ln cl : Nat} (hg : g < a.heap.size) (h : Sc w g l ln cl) (u0 u1 u2 u3 u4 : Value) : Sc (((((w.setCell ⟨a.heap.size, 0, none⟩ u0).setCell ⟨a.heap.size, 1, none⟩ u1).setCell ⟨a.heap.size, 2, none⟩ u2).setCell ⟨a.heap.size, 3, none⟩ u3).setCell ⟨a.heap.size, 4, none⟩ u4) g l ln cl := by
  unfold Sc at h ⊢
  have e : ∀ (W : World) (i : Nat) (u : Value), (W.setCell ⟨a.heap.size, i, none⟩ u).heap[g]? = W.heap[g]? := fun W i u => Below.heap_setCell _ _ _ _ (Nat.ne_of_lt hg)
  rw [e, e, e, e, e]
  exact h
abbrev tok0 : Obj := .cells #[.int .i64 0, .int .i64 0, .int .i64 0, .int .i64 0, .string ⟨#[]⟩] 44
abbrev pos0 (p : Nat × Nat) : Obj := .cells #[.int .i64 (p.1 : Int), .int .i64 (p.2 : Int)] 25
/-- the scanner within a token's call, ahead of its first call -/
theorem token_cells {w : World} {g : Nat} {l : List UInt8} {p : Nat × Nat} (h : Sc w g l p.1 p.2) :
    ((w.alloc tok0).cell? ⟨g, 1, none⟩ = some (.int .i64 (p.1 : Int)) ∧ (w.alloc tok0).cell? ⟨g, 2, none⟩ = some (.int .i64 (p.2 : Int))) ∧
    ((w.alloc tok0).alloc (pos0 p)).cell? ⟨g, 0, none⟩ = some (.string (st l)) ∧ Sc ((w.alloc tok0).alloc (pos0 p)) g l p.1 p.2 ∧ InTok w g p.1 p.2 ((w.alloc tok0).alloc (pos0 p)) := by
  have h1 := sc_later h ((Below.refl _ w).alloc (Nat.le_refl _) tok0)
  have h2 : Sc ((w.alloc tok0).alloc (pos0 p)) g l p.1 p.2 := sc_later h (below_start w tok0 (pos0 p) 0)
  exact ⟨⟨(sc_cells h1).2.1, (sc_cells h1).2.2⟩, (sc_cells h2).1, h2, InTok.made w g p.1 p.2 (sc_lt h) 0⟩
set_option maxHeartbeats 4000000 in
theorem token_open (g : Nat) (t : List UInt8) (p : Nat × Nat) (hf : Fit (40 :: t) p) (w : World) (h : Hid (Sc w g (40 :: t) p.1 p.2)) :
    Calls Try.prog 30 #[.pointer (some ⟨g, 0, none⟩)] w fun e w' => e = .returned (tokV p 0 0 []) ∧ Hid (Sc w' g t (adv 40 p).1 (adv 40 p).2) ∧ Hid (Only (· = g) w w') := by
  have HG : Hid (g < w.heap.size) := Lib.hid (sc_lt h.out)
  obtain ⟨⟨c1, c2⟩, c0, hS, hI⟩ := token_cells h.out
  have HS := Lib.hid hS
  have HI := Lib.hid hI
  have hix := idx0 40 t
  have HN := Lib.hid (fun W hs => next_any g 40 t p.1 p.2 hf.lt.1 hf.lt.2 W hs)
  obtain ⟨s0, hs0⟩ : ∃ s, st (40 :: t) = s := ⟨_, rfl⟩
  rw [hs0] at hix c0
  unfold tok0 at c0 c1 c2
  unfold pos0 at c0
  clear hs0 h hf hS hI
  go_enter Try.func30, Try.ntmps30
  go_wp2_with fail
  refine (HN.out _ HS).mono ?_
  rintro e w9 ⟨rfl, hs9, ho9⟩
  have HI9 := Lib.hid (HI.out.go ho9.out)
  obtain ⟨k0, k1, ⟨k2, k3, k4, k5, k6⟩, k7, k8, k9, ka, kb⟩ := HI9.out.kept
  clear HN HS HI c0 c1 c2 hix
  go_wp2_with fail
  refine bodyPost_ret (v := tokV p 0 0 []) ?_ rfl ⟨rfl, ?_, ?_⟩
  · simp [results, Try.results30]
    go_simp
    rfl
  · exact Lib.hid (sc_new5 HG.out hs9.out _ _ _ _ _)
  · exact Lib.hid (only_new5 HI9.out.1 _ _ _ _ _)
set_option maxHeartbeats 4000000 in
theorem token_close (g : Nat) (t : List UInt8) (p : Nat × Nat) (hf : Fit (41 :: t) p) (w : World) (h : Hid (Sc w g (41 :: t) p.1 p.2)) :
    Calls Try.prog 30 #[.pointer (some ⟨g, 0, none⟩)] w fun e w' => e = .returned (tokV p 1 0 []) ∧ Hid (Sc w' g t (adv 41 p).1 (adv 41 p).2) ∧ Hid (Only (· = g) w w') := by
  have HG : Hid (g < w.heap.size) := Lib.hid (sc_lt h.out)
  obtain ⟨⟨c1, c2⟩, c0, hS, hI⟩ := token_cells h.out
  have HS := Lib.hid hS
  have HI := Lib.hid hI
  have hix := idx0 41 t
  have HN := Lib.hid (fun W hs => next_any g 41 t p.1 p.2 hf.lt.1 hf.lt.2 W hs)
  obtain ⟨s0, hs0⟩ : ∃ s, st (41 :: t) = s := ⟨_, rfl⟩
  rw [hs0] at hix c0
  unfold tok0 at c0 c1 c2
  unfold pos0 at c0
  clear hs0 h hf hS hI
  go_enter Try.func30, Try.ntmps30
  go_wp2_with fail
  refine (HN.out _ HS).mono ?_
  rintro e w9 ⟨rfl, hs9, ho9⟩
  have HI9 := Lib.hid (HI.out.go ho9.out)
  obtain ⟨k0, k1, ⟨k2, k3, k4, k5, k6⟩, k7, k8, k9, ka, kb⟩ := HI9.out.kept
  clear HN HS HI c0 c1 c2 hix
  go_wp2_with fail
  refine bodyPost_ret (v := tokV p 1 0 []) ?_ rfl ⟨rfl, ?_, ?_⟩
  · simp [results, Try.results30]
    go_simp
    rfl
  · exact Lib.hid (sc_new5 HG.out hs9.out _ _ _ _ _)
  · exact Lib.hid (only_new5 HI9.out.1 _ _ _ _ _)
end Go.Proofs.Ytfpjeokncdlofaa
