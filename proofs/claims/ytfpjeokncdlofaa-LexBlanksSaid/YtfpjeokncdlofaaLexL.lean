/- Words of package lex: what a word is. -/
import Derived.Test.YtfpjeokncdlofaaLexK
import Derived.Deep.RegionWith
namespace Go.Proofs.Ytfpjeokncdlofaa
open Go.ChangeShapes Go.WideShapes Go.ChangeAt Go.RowKit Go.Joins
open Go.Proofs.Ytfpjeokncdlofaa.Fn (st st_size st_list st_extract)
set_option linter.unusedVariables false
set_option maxRecDepth 20000

/-- what ReadFloat tells of a text -/
def fltL : List UInt8 → Nat × Int
  | 45 :: t => (Fn.rfX true t, Fn.rfE t)
  | L => (Fn.rfX false L, Fn.rfE L)
theorem readF_any (L : List UInt8) (hl : L.length ≤ 6000) (w : World) :
    Calls Try.prog 42 #[.string (st L)] w fun e w' => e = .returned (.tuple #[.int .u64 (((fltL L).1 : Nat) : Int), .int .i64 (fltL L).2]) ∧ ∃ n, w' = w.drewN n := by
  by_cases h : ∃ t, L = 45 :: t
  · obtain ⟨t, rfl⟩ := h
    exact Fn.readF_all true t (by rw [List.length_cons] at hl; omega) (fun h => by cases h) w
  · have hn : ∀ t, L ≠ 45 :: t := fun t e => h ⟨t, e⟩
    have e : fltL L = (Fn.rfX false L, Fn.rfE L) := by
      unfold fltL
      split
      · exact absurd rfl (hn _)
      · rfl
    rw [e]
    exact Fn.readF_all false L hl (fun _ => hn) w
/-- what a word is: its kind, its number, its text -/
def wordS (L : List UInt8) : Option (Int × Int × List UInt8) :=
  if (Fd.out L).2 = 0 then some (2, (Fd.out L).1, [])
  else if (fltL L).2 = 0 then some (3, 0, eightB (fltL L).1)
  else if 40 < L.length then none
  else if conS L = true then some (6, 0, L)
  else if (Fd.out L).2 = 2 ∧ namS L = true then some (5, 0, L)
  else none
/-- the token that comes of it -/
def tokV (p : Nat × Nat) (k n : Int) (b : List UInt8) : Value := .agg #[.int .i64 k, .int .i64 (p.1 : Int), .int .i64 (p.2 : Int), .int .i64 n, .string (st b)]
theorem below_two {B : Nat} {a b c : World} (h : Below B a b) (h2 : Below b.heap.size b c) (hB : B ≤ b.heap.size) : Below B a c :=
  ⟨h2.os.trans h.os, h2.tape.trans h.tape, h2.output.trans h.output, Nat.le_trans h.size h2.size, fun k hk => (h2.block k (Nat.lt_of_lt_of_le hk hB)).trans (h.block k hk)⟩
theorem below_five {w W : World} (h : Below w.heap.size w W) (a b c d e : Value) : Below w.heap.size w (((((W.setCell ⟨w.heap.size + 1, 0, none⟩ a).setCell ⟨w.heap.size + 1, 1, none⟩ b).setCell ⟨w.heap.size + 1, 2, none⟩ c).setCell ⟨w.heap.size + 1, 3, none⟩ d).setCell ⟨w.heap.size + 1, 4, none⟩ e) :=
  ((((h.setCell (p := ⟨w.heap.size + 1, 0, none⟩) (Nat.le_succ _) a).setCell (p := ⟨w.heap.size + 1, 1, none⟩) (Nat.le_succ _) b).setCell (p := ⟨w.heap.size + 1, 2, none⟩) (Nat.le_succ _) c).setCell (p := ⟨w.heap.size + 1, 3, none⟩) (Nat.le_succ _) d).setCell (p := ⟨w.heap.size + 1, 4, none⟩) (Nat.le_succ _) e
theorem below_start (w : World) (o1 o2 : Obj) (m : Nat) : Below w.heap.size w (((w.alloc o1).alloc o2).drewN m) := by
  have h := ((Below.refl w.heap.size w).alloc (Nat.le_refl _) o1).alloc (by simp) o2
  exact ⟨h.os, h.tape, h.output, h.size, h.block⟩
theorem after_fb {w W w9 : World} {o1 o2 : Obj} (hs : W.heap = ((w.alloc o1).alloc o2).heap) (h : Below W.heap.size W w9) : w9.heap[w.heap.size]? = some o1 ∧ w9.heap[w.heap.size + 1]? = some o2 := by
  have e1 : W.heap = (w.heap.push o1).push o2 := hs
  have e2 : W.heap.size = w.heap.size + 2 := by rw [e1]; simp
  refine ⟨(h.block _ (by omega)).trans ?_, (h.block _ (by omega)).trans ?_⟩
  · rw [e1, Array.getElem?_push, if_neg (by simp), Array.getElem?_push_size]
  · rw [e1, Array.getElem?_push, if_pos (by simp)]
theorem fb_cells {w W w9 : World} {a b : Int} {T1 T2 : TypeId} (hs : W.heap = ((w.alloc (.cells #[.int .i64 a, .int .i64 b] T1)).alloc (.cells #[.int .i64 0, .int .i64 0, .int .i64 0, .int .i64 0, .string ⟨#[]⟩] T2)).heap) (h : Below W.heap.size W w9) :
    w9.cell? ⟨w.heap.size, 0, none⟩ = some (.int .i64 a) ∧ w9.cell? ⟨w.heap.size, 1, none⟩ = some (.int .i64 b) ∧
    (w9.cell? ⟨w.heap.size + 1, 0, none⟩ = some (.int .i64 0) ∧ w9.cell? ⟨w.heap.size + 1, 1, none⟩ = some (.int .i64 0) ∧ w9.cell? ⟨w.heap.size + 1, 2, none⟩ = some (.int .i64 0) ∧ w9.cell? ⟨w.heap.size + 1, 3, none⟩ = some (.int .i64 0) ∧ w9.cell? ⟨w.heap.size + 1, 4, none⟩ = some (.string ⟨#[]⟩)) ∧
    (w9.frozen? ⟨w.heap.size + 1, 0, none⟩ = false ∧ w9.frozen? ⟨w.heap.size + 1, 1, none⟩ = false ∧ w9.frozen? ⟨w.heap.size + 1, 2, none⟩ = false ∧ w9.frozen? ⟨w.heap.size + 1, 3, none⟩ = false ∧ w9.frozen? ⟨w.heap.size + 1, 4, none⟩ = false) := by
  obtain ⟨h1, h2⟩ := after_fb hs h
  have h1' : w9.heap[w.heap.size]? = some (.cells #[.int .i64 a, .int .i64 b] T1 (0, 0)) := h1
  have h2' : w9.heap[w.heap.size + 1]? = some (.cells #[.int .i64 0, .int .i64 0, .int .i64 0, .int .i64 0, .string ⟨#[]⟩] T2 (0, 0)) := h2
  refine ⟨?_, ?_, ⟨?_, ?_, ?_, ?_, ?_⟩, ⟨?_, ?_, ?_, ?_, ?_⟩⟩
  · rw [cell_of_block h1']; rfl
  · rw [cell_of_block h1']; rfl
  · rw [cell_of_block h2']; rfl
  · rw [cell_of_block h2']; rfl
  · rw [cell_of_block h2']; rfl
  · rw [cell_of_block h2']; rfl
  · rw [cell_of_block h2']; rfl
  all_goals exact unfrozen_of_block h2' _
/-- what of the two new blocks still stands -/
def Kept (w w9 : World) (a b : Int) : Prop :=
    w9.cell? ⟨w.heap.size, 0, none⟩ = some (.int .i64 a) ∧ w9.cell? ⟨w.heap.size, 1, none⟩ = some (.int .i64 b) ∧
    (w9.cell? ⟨w.heap.size + 1, 0, none⟩ = some (.int .i64 0) ∧ w9.cell? ⟨w.heap.size + 1, 1, none⟩ = some (.int .i64 0) ∧ w9.cell? ⟨w.heap.size + 1, 2, none⟩ = some (.int .i64 0) ∧ w9.cell? ⟨w.heap.size + 1, 3, none⟩ = some (.int .i64 0) ∧ w9.cell? ⟨w.heap.size + 1, 4, none⟩ = some (.string ⟨#[]⟩)) ∧
    (w9.frozen? ⟨w.heap.size + 1, 0, none⟩ = false ∧ w9.frozen? ⟨w.heap.size + 1, 1, none⟩ = false ∧ w9.frozen? ⟨w.heap.size + 1, 2, none⟩ = false ∧ w9.frozen? ⟨w.heap.size + 1, 3, none⟩ = false ∧ w9.frozen? ⟨w.heap.size + 1, 4, none⟩ = false)
theorem fb_start (w : World) (a b : Int) (f1 : Nat) (te : ByteArray) (T1 T2 : TypeId) (HFb : Hid (∀ W, Calls Try.prog 43 #[.int .u64 (f1 : Int)] W fun e w' => e = .returned (.string te) ∧ Hid (Below W.heap.size W w'))) (m : Nat) :
    Calls Try.prog 43 #[.int .u64 (f1 : Int)] (((w.alloc (.cells #[.int .i64 a, .int .i64 b] T1)).alloc (.cells #[.int .i64 0, .int .i64 0, .int .i64 0, .int .i64 0, .string ⟨#[]⟩] T2)).drewN m) fun e w9 => e = .returned (.string te) ∧ Kept w w9 a b ∧ Hid (Below w.heap.size w w9) := by
  refine (HFb.out _).mono ?_
  rintro e w9 ⟨rfl, hb9⟩
  exact ⟨rfl, fb_cells (W := (((w.alloc (.cells #[.int .i64 a, .int .i64 b] T1)).alloc (.cells #[.int .i64 0, .int .i64 0, .int .i64 0, .int .i64 0, .string ⟨#[]⟩] T2)).drewN m)) (T1 := T1) (T2 := T2) rfl hb9.out, Lib.hid (below_two (below_start w _ _ m) hb9.out (by simp [World.drewN]; omega))⟩
theorem st_nil : st [] = (⟨#[]⟩ : ByteArray) := rfl
set_option maxHeartbeats 4000000 in
theorem wordToken_any (c : UInt8) (t : List UInt8) (hl : (c :: t).length ≤ 6000) (p : Nat × Nat) (hx : (fltL (c :: t)).1 < 18446744073709551616) (w : World) :
    Calls Try.prog 36 #[.string (st (c :: t)), .agg #[.int .i64 (p.1 : Int), .int .i64 (p.2 : Int)]] w fun e w' =>
      ((∃ k n b, wordS (c :: t) = some (k, n, b) ∧ e = .returned (tokV p k n b)) ∨ (wordS (c :: t) = none ∧ e = thrown p.1 p.2 10)) ∧ Hid (Below w.heap.size w w') := by
  have HRd : Hid (∀ W, Calls Try.prog 41 #[.string (st (c :: t))] W fun e w' => e = .returned (.tuple #[.int .i64 (Fd.out (c :: t)).1, .int .i64 (Fd.out (c :: t)).2]) ∧ W = w') := Lib.hid (fun W => Fd.read_any (c :: t) hl W)
  have HRf := Lib.hid (fun W => readF_any (c :: t) hl W)
  have HCo := Lib.hid (fun W => isCon_any c t (Nat.le_trans hl (by decide)) W)
  have HNa := Lib.hid (fun W => isName_any c t (Nat.le_trans hl (by decide)) W)
  have HFb := Lib.hid (fun W => floatBytes_any (fltL (c :: t)).1 hx W)
  have HNt := Lib.hid (fun (a b : Int) W => noToken_any a b W)
  have HS : Hid (∀ r, wordS (c :: t) = r → r = if (Fd.out (c :: t)).2 = 0 then some (2, (Fd.out (c :: t)).1, []) else if (fltL (c :: t)).2 = 0 then some (3, 0, eightB (fltL (c :: t)).1) else if 40 < (c :: t).length then none else if conS (c :: t) = true then some (6, 0, c :: t) else if (Fd.out (c :: t)).2 = 2 ∧ namS (c :: t) = true then some (5, 0, c :: t) else none) := Lib.hid (fun r h => by rw [← h]; rfl)
  obtain ⟨R, hR⟩ : ∃ R, wordS (c :: t) = R := ⟨_, rfl⟩
  have HR := Lib.hid (HS.out R hR)
  rw [hR]
  clear HS hR
  generalize hL : c :: t = L at *
  obtain ⟨s, hs⟩ : ∃ s, st L = s := ⟨_, rfl⟩
  have hsz : s.size = L.length := by rw [← hs, st_size]
  have HT := Lib.hid (fun _ : True => hs)
  rw [hs] at HRd HRf HCo HNa ⊢
  generalize Fd.out L = o at *
  generalize fltL L = f at *
  generalize conS L = co at *
  generalize namS L = na at *
  obtain ⟨o1, o2⟩ := o
  obtain ⟨f1, f2⟩ := f
  obtain ⟨n0, hn0⟩ : ∃ n, L.length = n := ⟨_, rfl⟩
  rw [hn0] at hsz HR hl
  clear hL hs hn0
  by_cases h2 : o2 = 0
  · subst h2
    have HRe : Hid (R = some (2, o1, [])) := Lib.hid (by rw [HR.out, if_pos rfl])
    clear HR
    go_enter Try.func36, Try.ntmps36
    go_wp2_with fail
    refine (HRd.out _).mono ?_
    rintro e w2 ⟨rfl, rfl⟩
    go_wp2_with fail
    refine (HRf.out _).mono ?_
    rintro e w2 ⟨rfl, m, rfl⟩
    go_wp2_with fail
    refine bodyPost_ret (v := tokV p 2 o1 []) ?_ rfl ⟨.inl ⟨2, o1, [], HRe.out, rfl⟩, ?_⟩
    · simp [results, Try.results36]
      go_simp
      rfl
    · exact Lib.hid (below_five (below_start _ _ _ _) _ _ _ _ _)
  · have hb2 : (o2 == 0) = false := by simpa using h2
    by_cases h3 : f2 = 0
    · subst h3
      have HRe : Hid (R = some (3, 0, eightB f1)) := Lib.hid (by rw [HR.out, if_neg h2, if_pos rfl])
      obtain ⟨te, hte⟩ : ∃ t, st (eightB f1) = t := ⟨_, rfl⟩
      have HTe := Lib.hid (fun _ : True => hte)
      rw [hte] at HFb
      clear HR hte
      go_enter Try.func36, Try.ntmps36
      go_wp2_with fail
      refine (HRd.out _).mono ?_
      rintro e w2 ⟨rfl, rfl⟩
      go_wp2_with fail
      refine (HRf.out _).mono ?_
      rintro e w2 ⟨rfl, m, rfl⟩
      go_wp2_with fail
      go_region_with (go_at_call 43; refine (fb_start w _ _ f1 te _ _ HFb _).mono ?_; rintro e w9 ⟨rfl, ⟨k0, k1, ⟨k2, k3, k4, k5, k6⟩, k7, k8, k9, ka, kb⟩, HB9⟩)
      all_goals
        go_wp2_with fail
        refine bodyPost_ret (v := tokV p 3 0 (eightB f1)) ?_ rfl ⟨.inl ⟨3, 0, eightB f1, HRe.out, rfl⟩, ?_⟩
        · simp [results, Try.results36]
          go_simp
          unfold tokV
          rw [HTe.out trivial]
        · exact Lib.hid (below_five HB9.out _ _ _ _ _)
    · have hb3 : (f2 == 0) = false := by simpa using h3
      by_cases h4 : 40 < n0
      · have HRe : Hid (R = none) := Lib.hid (by rw [HR.out, if_neg h2, if_neg h3, if_pos h4])
        have h4I : (40 : Int) < (n0 : Int) := by omega
        clear HR h4
        go_enter Try.func36, Try.ntmps36
        go_wp2_with fail
        refine (HRd.out _).mono ?_
        rintro e w2 ⟨rfl, rfl⟩
        go_wp2_with fail
        refine (HRf.out _).mono ?_
        rintro e w2 ⟨rfl, m, rfl⟩
        go_wp2_with fail
        refine (HNt.out _ _ _).mono ?_
        rintro e w9 ⟨rfl, hb9⟩
        have HB9 := Lib.hid (below_two (below_start _ _ _ _) hb9.out (by simp; omega))
        go_wp2_with fail
        exact ⟨rfl, .inr ⟨HRe.out, rfl⟩, HB9⟩
      · have h4I : ¬ ((40 : Int) < (n0 : Int)) := by omega
        cases co with
        | true =>
          have HRe : Hid (R = some (6, 0, L)) := Lib.hid (by rw [HR.out, if_neg h2, if_neg h3, if_neg h4, if_pos rfl])
          clear HR h4
          go_enter Try.func36, Try.ntmps36
          go_wp2_with fail
          refine (HRd.out _).mono ?_
          rintro e w2 ⟨rfl, rfl⟩
          go_wp2_with fail
          refine (HRf.out _).mono ?_
          rintro e w2 ⟨rfl, m, rfl⟩
          go_wp2_with fail
          refine (HCo.out _).mono ?_
          rintro e w2 ⟨rfl, rfl⟩
          go_wp2_with fail
          refine bodyPost_ret (v := tokV p 6 0 L) ?_ rfl ⟨.inl ⟨6, 0, L, HRe.out, rfl⟩, ?_⟩
          · simp [results, Try.results36]
            go_simp
            unfold tokV
            rw [HT.out trivial]
          · exact Lib.hid (below_five (below_start _ _ _ _) _ _ _ _ _)
        | false =>
          by_cases h5 : o2 = 2
          · subst h5
            cases na with
            | true =>
              have HRe : Hid (R = some (5, 0, L)) := Lib.hid (by rw [HR.out, if_neg h2, if_neg h3, if_neg h4, if_neg (by decide), if_pos ⟨rfl, rfl⟩])
              clear HR h4 h2 hb2
              go_enter Try.func36, Try.ntmps36
              go_wp2_with fail
              refine (HRd.out _).mono ?_
              rintro e w2 ⟨rfl, rfl⟩
              go_wp2_with fail
              refine (HRf.out _).mono ?_
              rintro e w2 ⟨rfl, m, rfl⟩
              go_wp2_with fail
              refine (HCo.out _).mono ?_
              rintro e w2 ⟨rfl, rfl⟩
              go_wp2_with fail
              refine (HNa.out _).mono ?_
              rintro e w2 ⟨rfl, rfl⟩
              go_wp2_with fail
              refine bodyPost_ret (v := tokV p 5 0 L) ?_ rfl ⟨.inl ⟨5, 0, L, HRe.out, rfl⟩, ?_⟩
              · simp [results, Try.results36]
                go_simp
                unfold tokV
                rw [HT.out trivial]
              · exact Lib.hid (below_five (below_start _ _ _ _) _ _ _ _ _)
            | false =>
              have HRe : Hid (R = none) := Lib.hid (by rw [HR.out, if_neg h2, if_neg h3, if_neg h4, if_neg (by decide), if_neg (by rintro ⟨_, h⟩; cases h)])
              clear HR h4 h2 hb2
              go_enter Try.func36, Try.ntmps36
              go_wp2_with fail
              refine (HRd.out _).mono ?_
              rintro e w2 ⟨rfl, rfl⟩
              go_wp2_with fail
              refine (HRf.out _).mono ?_
              rintro e w2 ⟨rfl, m, rfl⟩
              go_wp2_with fail
              refine (HCo.out _).mono ?_
              rintro e w2 ⟨rfl, rfl⟩
              go_wp2_with fail
              refine (HNa.out _).mono ?_
              rintro e w2 ⟨rfl, rfl⟩
              go_wp2_with fail
              refine (HNt.out _ _ _).mono ?_
              rintro e w9 ⟨rfl, hb9⟩
              have HB9 := Lib.hid (below_two (below_start _ _ _ _) hb9.out (by simp; omega))
              go_wp2_with fail
              exact ⟨rfl, .inr ⟨HRe.out, rfl⟩, HB9⟩
          · have hb5 : (o2 == 2) = false := by simpa using h5
            have HRe : Hid (R = none) := Lib.hid (by rw [HR.out, if_neg h2, if_neg h3, if_neg h4, if_neg (by decide), if_neg (by rintro ⟨h, _⟩; exact h5 h)])
            clear HR h4
            go_enter Try.func36, Try.ntmps36
            go_wp2_with fail
            refine (HRd.out _).mono ?_
            rintro e w2 ⟨rfl, rfl⟩
            go_wp2_with fail
            refine (HRf.out _).mono ?_
            rintro e w2 ⟨rfl, m, rfl⟩
            go_wp2_with fail
            refine (HCo.out _).mono ?_
            rintro e w2 ⟨rfl, rfl⟩
            go_wp2_with fail
            refine (HNt.out _ _ _).mono ?_
            rintro e w9 ⟨rfl, hb9⟩
            have HB9 := Lib.hid (below_two (below_start _ _ _ _) hb9.out (by simp; omega))
            go_wp2_with fail
            exact ⟨rfl, .inr ⟨HRe.out, rfl⟩, HB9⟩

end Go.Proofs.Ytfpjeokncdlofaa
