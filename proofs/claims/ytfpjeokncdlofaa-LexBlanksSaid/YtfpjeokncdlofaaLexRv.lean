/- The document's words of package lex: what a word is. -/
import Derived.Test.YtfpjeokncdlofaaLexRp
import Derived.Deep.RegionWith
namespace Go.Proofs.Ytfpjeokncdlofaa
open Go.ChangeShapes Go.WideShapes Go.ChangeAt Go.RowKit Go.Joins
open Go.Proofs.Ytfpjeokncdlofaa.Fn (st st_size st_list st_extract)
open Go.Proofs.Ytfpjeokncdlofaa.Fd (out)
set_option linter.unusedVariables false
set_option maxRecDepth 20000

theorem refF_any (L : List UInt8) (hl : L.length ≤ 6000) (w : World) :
    Calls Try.prog 23 #[.string (st L)] w fun e w' => e = .returned (.tuple #[.int .u64 (((fltL L).1 : Nat) : Int), .int .i64 (fltL L).2]) ∧ ∃ n, w' = w.drewN n := by
  by_cases h : ∃ t, L = 45 :: t
  · obtain ⟨t, rfl⟩ := h
    exact Fn.refRead_all true t (by rw [List.length_cons] at hl; omega) (fun h => by cases h) w
  · have hn : ∀ t, L ≠ 45 :: t := fun t e => h ⟨t, e⟩
    have e : fltL L = (Fn.rfX false L, Fn.rfE L) := by
      unfold fltL
      split
      · exact absurd rfl (hn _)
      · rfl
    rw [e]
    exact Fn.refRead_all false L hl (fun _ => hn) w
abbrev rtok0 : Obj := .cells #[.int .i64 0, .int .i64 0, .int .i64 0, .int .i64 0, .string ⟨#[]⟩] 38
/-- the block of the result, as it was made -/
def KeptR (W : World) (b : Nat) : Prop :=
    (W.cell? ⟨b, 0, none⟩ = some (.int .i64 0) ∧ W.cell? ⟨b, 1, none⟩ = some (.int .i64 0) ∧ W.cell? ⟨b, 2, none⟩ = some (.int .i64 0) ∧ W.cell? ⟨b, 3, none⟩ = some (.int .i64 0) ∧ W.cell? ⟨b, 4, none⟩ = some (.string ⟨#[]⟩)) ∧
    (W.frozen? ⟨b, 0, none⟩ = false ∧ W.frozen? ⟨b, 1, none⟩ = false ∧ W.frozen? ⟨b, 2, none⟩ = false ∧ W.frozen? ⟨b, 3, none⟩ = false ∧ W.frozen? ⟨b, 4, none⟩ = false)
theorem keptR {w W : World} (h : Below w.heap.size w W) (hb : W.heap[w.heap.size]? = some (.cells #[.int .i64 0, .int .i64 0, .int .i64 0, .int .i64 0, .string ⟨#[]⟩] 38 (0, 0))) : KeptR W w.heap.size := by
  refine ⟨⟨?_, ?_, ?_, ?_, ?_⟩, ⟨?_, ?_, ?_, ?_, ?_⟩⟩
  · rw [cell_of_block hb]; rfl
  · rw [cell_of_block hb]; rfl
  · rw [cell_of_block hb]; rfl
  · rw [cell_of_block hb]; rfl
  · rw [cell_of_block hb]; rfl
  all_goals exact unfrozen_of_block hb _
theorem below_res5 {w W : World} (h : Below w.heap.size w W) (a b c d e : Value) : Below w.heap.size w (((((W.setCell ⟨w.heap.size, 0, none⟩ a).setCell ⟨w.heap.size, 1, none⟩ b).setCell ⟨w.heap.size, 2, none⟩ c).setCell ⟨w.heap.size, 3, none⟩ d).setCell ⟨w.heap.size, 4, none⟩ e) :=
  ((((h.setCell (p := ⟨w.heap.size, 0, none⟩) (Nat.le_refl _) a).setCell (p := ⟨w.heap.size, 1, none⟩) (Nat.le_refl _) b).setCell (p := ⟨w.heap.size, 2, none⟩) (Nat.le_refl _) c).setCell (p := ⟨w.heap.size, 3, none⟩) (Nat.le_refl _) d).setCell (p := ⟨w.heap.size, 4, none⟩) (Nat.le_refl _) e
theorem rtok_new (w : World) : Below w.heap.size w (w.alloc rtok0) ∧ (w.alloc rtok0).heap[w.heap.size]? = some (.cells #[.int .i64 0, .int .i64 0, .int .i64 0, .int .i64 0, .string ⟨#[]⟩] 38 (0, 0)) :=
  ⟨(Below.refl _ _).alloc (Nat.le_refl _) _, by show (w.heap.push _)[w.heap.size]? = _; simp⟩
set_option maxHeartbeats 4000000 in
/-- a word that is a number, or too long -/
theorem refWord_num (c : UInt8) (t : List UInt8) (hl : (c :: t).length ≤ 6000) (hs : (out (c :: t)).2 = 0 ∨ (fltL (c :: t)).2 = 0 ∨ 40 < (c :: t).length) (w : World) :
    Calls Try.prog 14 #[.string (st (c :: t))] w fun e w' =>
      ((∃ k n b, wordS (c :: t) = some (k, n, b) ∧ e = .returned (.tuple #[tokV (0, 0) k n b, .bool true])) ∨ (wordS (c :: t) = none ∧ e = .returned (.tuple #[tokV (0, 0) 0 0 [], .bool false]))) ∧ Hid (Below w.heap.size w w') := by
  have HRd : Hid (∀ W, Calls Try.prog 22 #[.string (st (c :: t))] W fun e w' => e = .returned (.tuple #[.int .i64 (out (c :: t)).1, .int .i64 (out (c :: t)).2]) ∧ W = w') := Lib.hid (fun W => Fd.refRead_any (c :: t) hl W)
  have HRf := Lib.hid (fun W => refF_any (c :: t) hl W)
  have HFb := Lib.hid (fun W => eight_any (fltL (c :: t)).1 (fltL_lt _) W)
  have HS : Hid (∀ r, wordS (c :: t) = r → r = if (out (c :: t)).2 = 0 then some (2, (out (c :: t)).1, []) else if (fltL (c :: t)).2 = 0 then some (3, 0, eightB (fltL (c :: t)).1) else if 40 < (c :: t).length then none else if conS (c :: t) = true then some (6, 0, c :: t) else if (out (c :: t)).2 = 2 ∧ namS (c :: t) = true then some (5, 0, c :: t) else none) := Lib.hid (fun r h => by rw [← h]; rfl)
  obtain ⟨R, hR⟩ : ∃ R, wordS (c :: t) = R := ⟨_, rfl⟩
  have HR := Lib.hid (HS.out R hR)
  rw [hR]
  clear HS hR
  generalize hL : c :: t = L at *
  obtain ⟨s, hs'⟩ : ∃ s, st L = s := ⟨_, rfl⟩
  have hsz : s.size = L.length := by rw [← hs', st_size]
  rw [hs'] at HRd HRf ⊢
  generalize out L = o at *
  generalize fltL L = f at *
  obtain ⟨o1, o2⟩ := o
  obtain ⟨f1, f2⟩ := f
  obtain ⟨n0, hn0⟩ : ∃ n, L.length = n := ⟨_, rfl⟩
  rw [hn0] at hsz HR hl hs
  clear hL hs' hn0
  by_cases h2 : o2 = 0
  · subst h2
    have HRe : Hid (R = some (2, o1, [])) := Lib.hid (by rw [HR.out, if_pos rfl])
    clear HR hs
    go_enter Try.func14, Try.ntmps14
    go_wp2_with fail
    refine (HRd.out _).mono ?_
    rintro e w2 ⟨rfl, rfl⟩
    go_wp2_with fail
    refine bodyPost_ret (v := .tuple #[tokV (0, 0) 2 o1 [], .bool true]) ?_ rfl ⟨.inl ⟨2, o1, [], HRe.out, rfl⟩, ?_⟩
    · simp [results, Try.results14]
      go_simp
      rfl
    · exact Lib.hid ((Below.refl _ _).alloc (Nat.le_refl _) _)
  · have hb2 : (o2 == 0) = false := by simpa using h2
    by_cases h3 : f2 = 0
    · subst h3
      have HRe : Hid (R = some (3, 0, eightB f1)) := Lib.hid (by rw [HR.out, if_neg h2, if_pos rfl])
      obtain ⟨te, hte⟩ : ∃ t, st (eightB f1) = t := ⟨_, rfl⟩
      have HTe := Lib.hid (fun _ : True => hte)
      rw [hte] at HFb
      clear HR hte hs
      go_enter Try.func14, Try.ntmps14
      go_wp2_with fail
      refine (HRd.out _).mono ?_
      rintro e w2 ⟨rfl, rfl⟩
      go_wp2_with fail
      refine (HRf.out _).mono ?_
      rintro e w2 ⟨rfl, m, rfl⟩
      go_wp2_with fail
      refine (HFb.out _).mono ?_
      rintro e w9 ⟨rfl, hb9⟩
      have hn := rtok_new w
      have hb9' : Below w.heap.size w w9 := (below_drewN hn.1 m).trans (hb9.out.mono hn.1.size)
      have hk := keptR hb9' ((hb9.out.block _ (Nat.lt_of_lt_of_le (Nat.lt_succ_self _) (Nat.le_of_eq (by show _ = (w.heap.push _).size; simp)))).trans hn.2)
      have HB9 := Lib.hid hb9'
      obtain ⟨⟨k0, k1, k2, k3, k4⟩, k5, k6, k7, k8, k9⟩ := hk
      clear hn hb9' hb9 HRd HRf HFb
      go_wp2_with fail
      refine bodyPost_ret (v := .tuple #[tokV (0, 0) 3 0 (eightB f1), .bool true]) ?_ rfl ⟨.inl ⟨3, 0, eightB f1, HRe.out, rfl⟩, ?_⟩
      · simp [results, Try.results14]
        go_simp
        unfold tokV
        rw [HTe.out trivial]
        rfl
      · exact Lib.hid (below_res5 HB9.out _ _ _ _ _)
    · have hb3 : (f2 == 0) = false := by simpa using h3
      have h4 : 40 < n0 := by omega
      have HRe : Hid (R = none) := Lib.hid (by rw [HR.out, if_neg h2, if_neg h3, if_pos h4])
      have h4I : (40 : Int) < (n0 : Int) := by omega
      have hbz : ∀ W, (Instr.build 38 #[]).run Try.prog W = .ok (.agg #[.int .i64 0, .int .i64 0, .int .i64 0, .int .i64 0, .string ⟨#[]⟩]) W := fun _ => by kernel_rfl
      clear HR h4 hs
      go_enter Try.func14, Try.ntmps14
      go_wp2_with fail
      refine (HRd.out _).mono ?_
      rintro e w2 ⟨rfl, rfl⟩
      go_wp2_with fail
      refine (HRf.out _).mono ?_
      rintro e w2 ⟨rfl, m, rfl⟩
      go_wp2_with fail
      refine bodyPost_ret (v := .tuple #[tokV (0, 0) 0 0 [], .bool false]) ?_ rfl ⟨.inr ⟨HRe.out, rfl⟩, ?_⟩
      · simp [results, Try.results14]
        go_simp
        rfl
      · exact Lib.hid (below_res5 (below_drewN (rtok_new w).1 m) _ _ _ _ _)
end Go.Proofs.Ytfpjeokncdlofaa
