/- The scanner of package lex: its block, one byte further, blanks. -/
import Derived.Test.YtfpjeokncdlofaaFd
import Derived.Test.YtfpjeokncdlofaaFn
namespace Go.Proofs.Ytfpjeokncdlofaa
open Go.ChangeShapes Go.WideShapes Go.ChangeAt Go.RowKit
open Go.Proofs.Ytfpjeokncdlofaa.Fn (st st_size st_list st_extract)
set_option linter.unusedVariables false
set_option maxRecDepth 20000

/-- the world is as it was, but for the blocks of S and for new ones -/
structure Only (S : Nat → Prop) (w w' : World) : Prop where
  os : w'.os = w.os
  tape : w'.tape = w.tape
  output : w'.output = w.output
  size : w.heap.size ≤ w'.heap.size
  block : ∀ k, k < w.heap.size → ¬ S k → w'.heap[k]? = w.heap[k]?
theorem Only.refl (S : Nat → Prop) (w : World) : Only S w w := ⟨rfl, rfl, rfl, Nat.le_refl _, fun _ _ _ => rfl⟩
theorem Only.trans {S : Nat → Prop} {a b c : World} (h : Only S a b) (k : Only S b c) : Only S a c :=
  ⟨k.os.trans h.os, k.tape.trans h.tape, k.output.trans h.output, Nat.le_trans h.size k.size, fun i hi hs => (k.block i (Nat.lt_of_lt_of_le hi h.size) hs).trans (h.block i hi hs)⟩
theorem Only.below {S : Nat → Prop} {w w' : World} {B : Nat} (h : Only S w w') (hs : ∀ k, S k → B ≤ k) (hB : B ≤ w.heap.size) : Below B w w' := ⟨h.os, h.tape, h.output, h.size, fun k hk => h.block k (Nat.lt_of_lt_of_le hk hB) fun hS => absurd (hs k hS) (by omega)⟩
theorem Only.of_below {S : Nat → Prop} {w w' : World} (h : Below w.heap.size w w') : Only S w w' := ⟨h.os, h.tape, h.output, h.size, fun k hk _ => h.block k hk⟩
theorem Only.setCell {S : Nat → Prop} {a w : World} (h : Only S a w) {p : Addr} (hp : S p.block) (u : Value) : Only S a (w.setCell p u) :=
  h.trans ⟨rfl, rfl, rfl, by simp [World.setCell], fun _ _ hn => Below.heap_setCell _ _ _ _ fun e => hn (e ▸ hp)⟩
theorem Only.set {a w : World} {g : Nat} (h : Only (· = g) a w) (i : Nat) (u : Value) : Only (· = g) a (w.setCell ⟨g, i, none⟩ u) := h.setCell (p := ⟨g, i, none⟩) rfl u
/-- a scanner: what stands ahead, the place of its first byte -/
def Sc (w : World) (g : Nat) (l : List UInt8) (ln cl : Nat) : Prop := w.heap[g]? = some (.cells #[.string (st l), .int .i64 (ln : Int), .int .i64 (cl : Int)] 65 (0, 0))
theorem sc_cells {w : World} {g : Nat} {l : List UInt8} {ln cl : Nat} (h : Sc w g l ln cl) : w.cell? ⟨g, 0, none⟩ = some (.string (st l)) ∧ w.cell? ⟨g, 1, none⟩ = some (.int .i64 (ln : Int)) ∧ w.cell? ⟨g, 2, none⟩ = some (.int .i64 (cl : Int)) := by
  unfold Sc at h
  exact ⟨by simp [World.cell?, h], by simp [World.cell?, h], by simp [World.cell?, h]⟩
theorem sc_free {w : World} {g : Nat} {l : List UInt8} {ln cl : Nat} (h : Sc w g l ln cl) (i : Nat) : w.frozen? ⟨g, i, none⟩ = false := by
  unfold Sc at h
  simp [World.frozen?, h]
theorem sc_lt {w : World} {g : Nat} {l : List UInt8} {ln cl : Nat} (h : Sc w g l ln cl) : g < w.heap.size := (Array.getElem?_eq_some_iff.1 h).1
theorem sc_later {w w' : World} {g : Nat} {l : List UInt8} {ln cl : Nat} (h : Sc w g l ln cl) (hb : Below w.heap.size w w') : Sc w' g l ln cl := (hb.block g (sc_lt h)).trans h
/-- the place behind a byte -/
def adv (c : UInt8) (p : Nat × Nat) : Nat × Nat := if c = 10 then (p.1 + 1, 1) else (p.1, p.2 + 1)
theorem idx0 (c : UInt8) (t : List UInt8) (W : World) : (Instr.index 9 (.string (st (c :: t))) (.int .i64 0)).run Try.prog W = .ok (.int .u8 ((c.toNat : Nat) : Int)) W := by
  rw [run_index_string W 9 (st (c :: t)) .i64 0 Try.underlying9, dif_pos (by rw [st_size]; simp)]
  rfl
theorem cut1 (c : UInt8) (t : List UInt8) (W : World) : (Instr.slice 9 (.string (st (c :: t))) (some (.int .i64 1)) none none).run Try.prog W = .ok (.string (st t)) W := by
  rw [run_slice_string_from_if W 9 (st (c :: t)) .i64 1 Try.underlying9, if_pos (by rw [st_size]; simp; omega)]
  show Result.ok (Value.string ((st (c :: t)).extract 1 (st (c :: t)).size)) W = _
  rw [st_extract, st_size]
  simp
theorem st_empty (l : List UInt8) : st l = ⟨#[]⟩ ↔ l = [] := by
  cases l with
  | nil => simp [st]
  | cons a b => simp [st]
set_option maxHeartbeats 1000000 in
theorem next_any (g : Nat) (c : UInt8) (t : List UInt8) (ln cl : Nat) (hl : ln ≤ 1000000) (hc : cl ≤ 1000000) (w : World) (h : Hid (Sc w g (c :: t) ln cl)) :
    Calls Try.prog 33 #[.pointer (some ⟨g, 0, none⟩)] w fun e w' => e = .returned (.int .u8 ((c.toNat : Nat) : Int)) ∧ Hid (Sc w' g t (adv c (ln, cl)).1 (adv c (ln, cl)).2) ∧ Hid (Only (· = g) w w') := by
  obtain ⟨c0, c1, c2⟩ := sc_cells h.out
  have f0 := sc_free h.out 0
  have f1 := sc_free h.out 1
  have f2 := sc_free h.out 2
  have hix := idx0 c t
  have hsl := cut1 c t
  have hw1 : IntKind.i64.wrap ((ln : Int) + 1) = ((ln + 1 : Nat) : Int) := by rw [IntKind.wrap_i64]; omega
  have hw2 : IntKind.i64.wrap ((cl : Int) + 1) = ((cl + 1 : Nat) : Int) := by rw [IntKind.wrap_i64]; omega
  obtain ⟨s0, hs0⟩ : ∃ s, st (c :: t) = s := ⟨_, rfl⟩
  obtain ⟨s1, hs1⟩ : ∃ s, st t = s := ⟨_, rfl⟩
  obtain ⟨x, hx⟩ : ∃ x, c.toNat = x := ⟨_, rfl⟩
  rw [hs0] at hix hsl c0
  rw [hs1] at hsl
  rw [hx] at hix
  have HSt := Lib.hid (fun _ : True => hs1)
  have HX := Lib.hid (fun _ : True => hx)
  rw [hx]
  clear hs0 hs1 hx
  by_cases h10 : x = 10
  · subst h10
    have hadv : adv c (ln, cl) = (ln + 1, 1) := if_pos (UInt8.toNat_inj.1 (HX.out trivial))
    rw [hadv]
    go_enter Try.func33, Try.ntmps33
    go_wp2_with fail
    go_ret
    refine ⟨rfl, Lib.hid ?_, Lib.hid ((((Only.refl (· = g) w).set 0 _).set 1 _).set 2 _)⟩
    have h3 := h.out
    unfold Sc at h3 ⊢
    rw [HSt.out trivial]
    simp [World.setCell, Array.getElem?_modify, h3]
  · have h10I : ¬ ((x : Int) = 10) := by omega
    have hadv : adv c (ln, cl) = (ln, cl + 1) := if_neg fun e => h10 (by rw [← HX.out trivial, e]; rfl)
    rw [hadv]
    go_enter Try.func33, Try.ntmps33
    go_wp2_with fail
    go_ret
    refine ⟨rfl, Lib.hid ?_, Lib.hid (((Only.refl (· = g) w).set 0 _).set 2 _)⟩
    have h3 := h.out
    unfold Sc at h3 ⊢
    rw [HSt.out trivial]
    simp [World.setCell, Array.getElem?_modify, h3]
theorem ended_any (g : Nat) (l : List UInt8) (ln cl : Nat) (w : World) (h : Hid (Sc w g l ln cl)) :
    Calls Try.prog 29 #[.pointer (some ⟨g, 0, none⟩)] w fun e w' => e = .returned (.bool (decide (l = []))) ∧ w = w' := by
  obtain ⟨c0, c1, c2⟩ := sc_cells h.out
  by_cases hl : l = []
  · subst hl
    rw [show decide (([] : List UInt8) = []) = true from rfl]
    have e : st [] = ⟨#[]⟩ := rfl
    rw [e] at c0
    go_enter Try.func29, Try.ntmps29
    go_wp2_with fail
    go_ret
    exact ⟨rfl, rfl⟩
  · have hd : decide (l = []) = false := decide_eq_false hl
    rw [hd]
    obtain ⟨s, hs⟩ : ∃ s, st l = s := ⟨_, rfl⟩
    have hne : ¬ s = (⟨#[]⟩ : ByteArray) := fun e => hl ((st_empty l).1 (hs.trans e))
    have hbe : (s.toList == ([] : List UInt8)) = false := by
      simp only [beq_eq_false_iff_ne]
      intro e
      rw [ByteArray.toList_eq] at e
      exact hne (ByteArray.ext (Array.toList_inj.1 e))
    rw [hs] at c0
    clear hs
    go_enter Try.func29, Try.ntmps29
    go_wp2_with fail
    go_ret
    exact ⟨rfl, rfl⟩
end Go.Proofs.Ytfpjeokncdlofaa
