/- The document's words of package lex: what a word is, told by its bytes' places. -/
import Derived.Test.YtfpjeokncdlofaaLexRe
namespace Go.Proofs.Ytfpjeokncdlofaa
open Go.ChangeShapes Go.WideShapes Go.ChangeAt Go.RowKit Go.Joins
open Go.Proofs.Ytfpjeokncdlofaa.Fn (st st_size st_list st_extract)
open Go.Proofs.Ytfpjeokncdlofaa.Fd (dgB val digs outD out out_neg out_pos dg_of)
set_option linter.unusedVariables false
set_option maxRecDepth 20000

def atN (L : List UInt8) (j : Nat) : Nat := (L.getD j 0).toNat
def namW (x : Nat) : Bool := capN x || digN x || sigN x
def conR (L : List UInt8) (k : Nat) : Bool := capN (atN L 0) && (List.range k).all fun j => alnN (atN L j)
def namR (L : List UInt8) (k : Nat) : Bool := sigN (atN L 0) && (List.range k).all fun j => namW (atN L j)
def digG (L : List UInt8) (j : Nat) : Bool := digN (atN L j) || (j == 0 && atN L j == 45 && decide (1 < L.length))
def digR (L : List UInt8) (k : Nat) : Bool := (List.range k).all fun j => digG L j
theorem range_step (f : Nat → Bool) (k : Nat) : (List.range (k + 1)).all f = ((List.range k).all f && f k) := by
  rw [List.range_succ, List.all_append]
  simp
theorem range_first (f : Nat → Bool) (k : Nat) : (List.range (k + 1)).all f = (f 0 && (List.range k).all fun j => f (j + 1)) := by
  rw [List.range_succ_eq_map]
  simp [List.all_map]
  rfl
theorem range_list (f : UInt8 → Bool) : ∀ L : List UInt8, (List.range L.length).all (fun j => f (L.getD j 0)) = L.all f
  | [] => rfl
  | c :: t => by
    rw [List.length_cons, range_first, List.all_cons, ← range_list f t]
    rfl
theorem conR_step (L : List UInt8) (k : Nat) : conR L (k + 1) = (conR L k && alnN (atN L k)) := by
  unfold conR
  rw [range_step, Bool.and_assoc]
theorem namR_step (L : List UInt8) (k : Nat) : namR L (k + 1) = (namR L k && namW (atN L k)) := by
  unfold namR
  rw [range_step, Bool.and_assoc]
theorem digR_step (L : List UInt8) (k : Nat) : digR L (k + 1) = (digR L k && digG L k) := range_step _ _
theorem conR_end (c : UInt8) (t : List UInt8) : conR (c :: t) (c :: t).length = conS (c :: t) := by
  unfold conR conS
  have h := range_list (fun d => alnN d.toNat) (c :: t)
  have h2 : ((List.range (c :: t).length).all fun j => alnN (atN (c :: t) j)) = (c :: t).all (fun d => alnN d.toNat) := h
  rw [h2, Bool.and_comm]
  rfl
theorem oth_is (x : Nat) (h : x < 256) : namN x = namW x ∧ (namN x && !capN x && !digN x) = (namN x && sigN x) := by
  have key : ∀ x : Fin 256, namN x = namW x ∧ (namN x && !capN x && !digN x) = (namN x && sigN x) := by decide +kernel
  exact key ⟨x, h⟩
theorem namR_end (c : UInt8) (t : List UInt8) : namR (c :: t) (c :: t).length = namS (c :: t) := by
  unfold namR namS
  have h := range_list (fun d => namW d.toNat) (c :: t)
  have h2 : ((List.range (c :: t).length).all fun j => namW (atN (c :: t) j)) = (c :: t).all (fun d => namW d.toNat) := h
  have h3 : (c :: t).all (fun d => namW d.toNat) = (c :: t).all (fun d => namN d.toNat) := by
    congr 1
    funext d
    exact (oth_is d.toNat d.toNat_lt).1.symm
  rw [h2, h3, List.all_cons]
  obtain ⟨_, h4⟩ := oth_is c.toNat c.toNat_lt
  show (sigN c.toNat && (namN c.toNat && t.all fun d => namN d.toNat)) = ((namN c.toNat && t.all fun d => namN d.toNat) && !capN c.toNat && !digN c.toNat)
  revert h4
  cases namN c.toNat <;> cases capN c.toNat <;> cases digN c.toNat <;> cases sigN c.toNat <;> cases (t.all fun d => namN d.toNat) <;> simp
theorem dg_dig (c : UInt8) : dgB c = digN c.toNat := rfl
theorem digR_end (c : UInt8) (t : List UInt8) : digR (c :: t) (c :: t).length = if c = 45 then (!t.isEmpty && t.all dgB) else (c :: t).all dgB := by
  unfold digR
  rw [List.length_cons, range_first]
  have h : ((List.range t.length).all fun j => digG (c :: t) (j + 1)) = t.all dgB := by
    rw [← range_list dgB t]
    congr 1
    funext j
    unfold digG
    have e : atN (c :: t) (j + 1) = (t.getD j 0).toNat := rfl
    rw [e, show (j + 1 == 0) = false from rfl, Bool.false_and, Bool.false_and, Bool.or_false]
    rfl
  rw [h]
  have e0 : digG (c :: t) 0 = (digN c.toNat || (c.toNat == 45 && decide (1 < (c :: t).length))) := by unfold digG; rfl
  rw [e0]
  by_cases hc : c = 45
  · subst hc
    rw [if_pos rfl]
    cases t <;> simp [digN]
  · have h45 : (c.toNat == 45) = false := beq_eq_false_iff_ne.2 fun e => hc (UInt8.toNat_inj.1 e)
    rw [if_neg hc, h45, Bool.false_and, Bool.or_false, List.all_cons]
    rfl
theorem outD_two (neg : Bool) (ds : List UInt8) : ((outD neg ds).2 = 2 ↔ digs ds = false) := by
  unfold outD
  by_cases h : digs ds = true
  · rw [if_neg (by rw [h]; decide), h]
    split <;> simp
  · rw [if_pos (by simpa using h)]
    simpa using h
theorem digs_out (c : UInt8) (t : List UInt8) : ((out (c :: t)).2 = 2 ↔ digR (c :: t) (c :: t).length = false) := by
  rw [digR_end]
  by_cases hc : c = 45
  · subst hc
    rw [if_pos rfl, out_neg, outD_two]
    rfl
  · rw [if_neg hc, out_pos _ (fun u e => hc (by cases e; rfl)), outD_two]
    unfold digs
    rfl
theorem digs_con (c : UInt8) (t : List UInt8) (h : digR (c :: t) (c :: t).length = true) : conS (c :: t) = false := by
  rw [digR_end] at h
  have hcap : capN c.toNat = false := by
    by_cases hc : c = 45
    · subst hc; decide
    · rw [if_neg hc, List.all_cons, Bool.and_eq_true] at h
      have h2 := (dg_of c).1 h.1
      unfold capN
      rw [decide_eq_false (by omega)]
      rfl
  show ((c :: t).all (fun d => alnN d.toNat) && capN c.toNat) = false
  rw [hcap, Bool.and_false]
/-- what a word is, when it is no number -/
theorem wordS_rest (c : UInt8) (t : List UInt8) (h1 : ¬ (out (c :: t)).2 = 0) (h2 : ¬ (fltL (c :: t)).2 = 0) (h3 : ¬ 40 < (c :: t).length) :
    wordS (c :: t) = if digR (c :: t) (c :: t).length = true then none else if conR (c :: t) (c :: t).length = true then some (6, 0, c :: t) else if namR (c :: t) (c :: t).length = true then some (5, 0, c :: t) else none := by
  unfold wordS
  rw [if_neg h1, if_neg h2, if_neg h3, conR_end, namR_end]
  by_cases hd : digR (c :: t) (c :: t).length = true
  · rw [if_pos hd, if_neg (by rw [digs_con c t hd]; decide), if_neg (by rintro ⟨h, _⟩; rw [digs_out] at h; rw [hd] at h; cases h)]
  · have h5 : (out (c :: t)).2 = 2 := (digs_out c t).2 (by simpa using hd)
    rw [if_neg hd, h5]
    simp
end Go.Proofs.Ytfpjeokncdlofaa
