/- The reader's calls, with all blocks but its own as they were. No condition but that the bytes are few. -/
import Derived.Test.YtflgodphphbbjaaText
namespace Go.Proofs.Ytflgodphphbbjaa
open Go.ChangeShapes Go.WideShapes Go.ChangeAt Go.RowKit Go.Lib

/-- the world is as it was, but for the blocks of S and for new ones -/
structure Only (S : Nat → Prop) (w w' : World) : Prop where
  os : w'.os = w.os
  tape : w'.tape = w.tape
  output : w'.output = w.output
  size : w.heap.size ≤ w'.heap.size
  block : ∀ k, k < w.heap.size → ¬ S k → w'.heap[k]? = w.heap[k]?
theorem Only.refl (S : Nat → Prop) (w : World) : Only S w w := ⟨rfl, rfl, rfl, Nat.le_refl _, fun _ _ _ => rfl⟩
theorem Only.trans {S : Nat → Prop} {a b c : World} (h : Only S a b) (k : Only S b c) : Only S a c :=
  ⟨k.os.trans h.os, k.tape.trans h.tape, k.output.trans h.output, Nat.le_trans h.size k.size, fun i hi hs => (k.block i (Nat.lt_of_lt_of_le hi h.size) hs).trans (h.block i hi hs)⟩
theorem Only.mono {S S' : Nat → Prop} {w w' : World} (h : Only S w w') (hs : ∀ k, k < w.heap.size → S k → S' k) : Only S' w w' := ⟨h.os, h.tape, h.output, h.size, fun k hk hn => h.block k hk fun x => hn (hs k hk x)⟩
theorem Only.below {S : Nat → Prop} {w w' : World} {B : Nat} (h : Only S w w') (hs : ∀ k, S k → B ≤ k) (hB : B ≤ w.heap.size) : Below B w w' := ⟨h.os, h.tape, h.output, h.size, fun k hk => h.block k (by omega) fun x => by have := hs k x; omega⟩
theorem Only.of_below {S : Nat → Prop} {w w' : World} (h : Below w.heap.size w w') : Only S w w' := ⟨h.os, h.tape, h.output, h.size, fun k hk _ => h.block k hk⟩
theorem Only.alloc {S : Nat → Prop} {a w : World} (h : Only S a w) (o : Obj) : Only S a (w.alloc o) :=
  h.trans ⟨rfl, rfl, rfl, by simp, fun _ hk _ => Below.heap_alloc _ _ _ hk⟩
theorem Only.drew {S : Nat → Prop} {a w : World} (h : Only S a w) : Only S a w.drew := ⟨h.os, h.tape, h.output, h.size, h.block⟩
theorem Only.setCell {S : Nat → Prop} {a w : World} (h : Only S a w) {p : Addr} (hp : S p.block) (u : Value) : Only S a (w.setCell p u) :=
  h.trans ⟨rfl, rfl, rfl, by simp [World.setCell], fun _ _ hn => Below.heap_setCell _ _ _ _ fun e => hn (e ▸ hp)⟩
theorem only_set {a w : World} {g : Nat} (h : Only (· = g) a w) (i : Nat) (u : Value) : Only (· = g) a (w.setCell ⟨g, i, none⟩ u) := h.setCell (p := ⟨g, i, none⟩) rfl u

set_option maxRecDepth 20000 in
set_option maxHeartbeats 1500000 in
theorem inNum_only (g : Nat) (L : List Nat) (least most : Int) (hn : L.length ≤ 1000000) (hB : ∀ b ∈ L, b < 256) (w : World) (hb : Hid (Box w g L 0)) :
    Calls Try.prog 15 #[.pointer (some ⟨g, 0, none⟩), .int .i64 least, .int .i64 most] w fun e w' => e = .returned (.int .i64 (rdB least most L).1) ∧ Box w' g (L.drop (rdB least most L).2.1) (rdB least most L).2.2 ∧ Only (· = g) w w' := by
  obtain ⟨hh, oo, cap, hg, hcap, hne, hat⟩ := hb.out
  have hc0 := box_cell0 hg
  have hc1 := box_cell1 hg
  have hf0 := box_free (i := 0) hg
  have hf1 := box_free (i := 1) hg
  have HG := Lib.hid (fun _ : True => hg)
  have HF := Lib.hid (first_any hh oo cap L hn hB w (Lib.hid hat))
  have HA := Lib.hid hat
  clear hg hat
  obtain ⟨n, sz, er, hr⟩ : ∃ n sz er, rd 0 0 L = (n, sz, er) := ⟨_, _, _, rfl⟩
  have hsz : sz ≤ L.length := by have := rd_size L 0 0; rw [hr] at this; have h2 : sz ≤ 0 + L.length := this; omega
  have HR := Lib.hid (fun _ : True => hr)
  have HE : Hid (True → er ≠ 0 → n = 0 ∧ sz = 0) := Lib.hid fun _ he => by have := rd_err L 0 0; rw [hr] at this; exact this he
  rw [hr] at HF
  clear hr
  by_cases he : er = 0
  · subst he
    by_cases hlo : n < least ∨ most < n
    · have hR : Hid (True → rdB least most L = (0, 0, 4)) := Lib.hid fun _ => by unfold rdB; rw [HR.out trivial]; exact if_pos ⟨rfl, hlo⟩
      rcases hlo with hlo | hlo
      all_goals
        go_enter Try.func15, Try.ntmps15
        go_wp2_with (first
          | (go_at_call 16; refine (err_any g L 0 _ hb).mono ?_; rintro e w' ⟨rfl, rfl⟩)
          | (go_at_call 25; refine HF.out.mono ?_; rintro e w' ⟨rfl, rfl⟩; unfold rdV))
        all_goals
          go_ret
          rw [hR.out trivial]
          exact ⟨rfl, ⟨hh, oo, cap, box_set1 (HG.out trivial) _, hcap, hne, at_set HA.out _ _ hne _⟩, only_set (Only.refl _ _) _ _⟩
    · have hR : Hid (True → rdB least most L = (n, sz, 0)) := Lib.hid fun _ => by unfold rdB; rw [HR.out trivial]; exact if_neg fun h => hlo h.2
      have hlo1 : least ≤ n := by omega
      have hlo2 : n ≤ most := by omega
      clear hlo
      by_cases hcs : cap = sz
      · subst hcs
        go_enter Try.func15, Try.ntmps15
        go_wp2_with (first
          | (go_at_call 16; refine (err_any g L 0 _ hb).mono ?_; rintro e w' ⟨rfl, rfl⟩)
          | (go_at_call 25; refine HF.out.mono ?_; rintro e w' ⟨rfl, rfl⟩; unfold rdV))
        all_goals
          go_ret
          rw [hR.out trivial]
          show _ = _ ∧ Box _ g (L.drop cap) 0 ∧ _
          refine ⟨rfl, ⟨hh, oo, cap - cap, ?_, by rw [List.length_drop]; omega, hne, at_nil (by rw [List.length_drop]; omega)⟩, only_set (Only.refl _ _) _ _⟩
          rw [List.length_drop, show L.length - cap = 0 by omega, Nat.sub_self]
          exact box_set0 (HG.out trivial) _
      · go_enter Try.func15, Try.ntmps15
        go_wp2_with (first
          | (go_at_call 16; refine (err_any g L 0 _ hb).mono ?_; rintro e w' ⟨rfl, rfl⟩)
          | (go_at_call 25; refine HF.out.mono ?_; rintro e w' ⟨rfl, rfl⟩; unfold rdV))
        all_goals
          go_ret
          rw [hR.out trivial]
          show _ = _ ∧ Box _ g (L.drop sz) 0 ∧ _
          refine ⟨rfl, ⟨hh, oo + sz, cap - sz, ?_, by rw [List.length_drop]; omega, hne, at_set (at_drop HA.out sz) _ _ hne _⟩, only_set (Only.refl _ _) _ _⟩
          rw [List.length_drop]
          exact box_set0 (HG.out trivial) _
  · have hR : Hid (True → rdB least most L = (0, 0, er)) := Lib.hid fun _ => by
      unfold rdB; rw [HR.out trivial, if_neg fun h => he h.1]
      obtain ⟨e1, e2⟩ := HE.out trivial he
      rw [e1, e2]
    go_enter Try.func15, Try.ntmps15
    go_wp2_with (first
      | (go_at_call 16; refine (err_any g L 0 _ hb).mono ?_; rintro e w' ⟨rfl, rfl⟩)
      | (go_at_call 25; refine HF.out.mono ?_; rintro e w' ⟨rfl, rfl⟩; unfold rdV))
    all_goals
      go_ret
      rw [hR.out trivial]
      exact ⟨rfl, ⟨hh, oo, cap, box_set1 (HG.out trivial) _, hcap, hne, at_set HA.out _ _ hne _⟩, only_set (Only.refl _ _) _ _⟩
set_option maxRecDepth 20000 in
theorem fail_only (g : Nat) (L : List Nat) (err e0 : Int) (w : World) (hb : Hid (Box w g L err)) :
    Calls Try.prog 14 #[.pointer (some ⟨g, 0, none⟩), .int .i64 e0] w fun e w' => e = .returned (.tuple #[]) ∧ Box w' g L (if err = 0 then e0 else err) ∧ Only (· = g) w w' := by
  obtain ⟨hc, hf⟩ := box_facts hb.out
  have HE := Lib.hid (err_any g L err w hb)
  by_cases h0 : err = 0
  · subst h0
    go_enter Try.func14, Try.ntmps14
    go_wp2_with fail
    refine HE.out.mono ?_
    rintro e w' ⟨rfl, rfl⟩
    go_wp2_with fail
    go_end0
    exact ⟨rfl, box_fail hb.out e0, only_set (Only.refl _ _) _ _⟩
  · go_enter Try.func14, Try.ntmps14
    go_wp2_with fail
    refine HE.out.mono ?_
    rintro e w' ⟨rfl, rfl⟩
    go_wp2_with fail
    go_end0
    exact ⟨rfl, hb.out, Only.refl _ _⟩
set_option maxRecDepth 20000 in
theorem end_only (g : Nat) (L : List Nat) (err : Int) (w : World) (hb : Hid (Box w g L err)) :
    Calls Try.prog 17 #[.pointer (some ⟨g, 0, none⟩)] w fun e w' => e = .returned (.int .i64 (endE L err)) ∧ Box w' g L (endE L err) ∧ Only (· = g) w w' := by
  have HL := Lib.hid (left_any g L err w hb)
  have HF := Lib.hid (fail_only g L err 2 w hb)
  have HE := Lib.hid (fun W h => err_any g L (if err = 0 then 2 else err) W h)
  have HE2 := Lib.hid (err_any g L err w hb)
  by_cases h0 : 0 < L.length
  · have hv : endE L err = if err = 0 then 2 else err := by
      unfold endE
      by_cases h : err = 0
      · rw [if_pos ⟨h0, h⟩, if_pos h]
      · rw [if_neg fun x => h x.2, if_neg h]
    rw [hv]
    generalize (if err = 0 then 2 else err) = er at *
    clear hv
    generalize L.length = n at HL h0
    go_enter Try.func17, Try.ntmps17
    go_wp2_with fail
    refine HL.out.mono ?_
    rintro e w' ⟨rfl, rfl⟩
    go_wp2_with fail
    refine HF.out.mono ?_
    rintro e w2 ⟨rfl, hb2', hl2'⟩
    have hb2 := Lib.hid hb2'
    have hl2 := Lib.hid hl2'
    clear hb2' hl2'
    go_wp2_with fail
    refine (HE.out _ hb2).mono ?_
    rintro e w' ⟨rfl, rfl⟩
    go_wp2_with fail
    go_ret
    exact ⟨rfl, hb2.out, hl2.out⟩
  · have hv : endE L err = err := if_neg fun h => h0 h.1
    rw [hv]
    clear hv
    have h00 : L.length = 0 := by omega
    rw [h00] at HL
    clear h00 h0
    go_enter Try.func17, Try.ntmps17
    go_wp2_with fail
    refine HL.out.mono ?_
    rintro e w' ⟨rfl, rfl⟩
    go_wp2_with fail
    refine HE2.out.mono ?_
    rintro e w' ⟨rfl, rfl⟩
    go_wp2_with fail
    go_ret
    exact ⟨rfl, hb.out, Only.refl _ _⟩
set_option maxRecDepth 20000 in
set_option maxHeartbeats 2000000 in
theorem inStr_only (g : Nat) (L : List Nat) (most : Int) (hn : L.length ≤ 1000000) (hB : ∀ b ∈ L, b < 256) (w : World) (hb : Hid (Box w g L 0)) :
    Calls Try.prog 19 #[.pointer (some ⟨g, 0, none⟩), .int .i64 most] w fun e w' => e = .returned (.string (sv (rdS most L).1)) ∧ Box w' g (rdS most L).2.1 (rdS most L).2.2 ∧ Only (· = g) w w' := by
  have HN := Lib.hid (inNum_only g L 0 most hn hB w hb)
  have hge := rdB_ge most L
  obtain ⟨n, sz, er, hr⟩ : ∃ n sz er, rdB 0 most L = (n, sz, er) := ⟨_, _, _, rfl⟩
  have hS : rdS most L = if er ≠ 0 then ([], L.drop sz, er) else if ((L.drop sz).length : Int) < n then ([], L.drop sz, 3) else ((L.drop sz).take n.toNat, (L.drop sz).drop n.toNat, 0) := by unfold rdS; rw [hr]
  rw [hr] at HN hge
  have hge' : er = 0 → 0 ≤ n := hge
  have hTl : (L.drop sz).length ≤ 1000000 := by rw [List.length_drop]; omega
  rw [hS]
  obtain ⟨T, hT⟩ : ∃ T, L.drop sz = T := ⟨_, rfl⟩
  have HN2 : Hid (Calls Try.prog 15 #[.pointer (some ⟨g, 0, none⟩), .int .i64 0, .int .i64 most] w fun e w' => e = .returned (.int .i64 n) ∧ Hid (Box w' g T er) ∧ Hid (Only (· = g) w w')) :=
    Lib.hid (HN.out.mono fun e w' ⟨h1, h2, h3⟩ => ⟨h1, Lib.hid (by rw [← hT]; exact h2), Lib.hid h3⟩)
  rw [hT] at hTl ⊢
  clear HN hge hr hS hT hB hn
  by_cases he : er = 0
  · subst he
    have hn0 := hge' rfl
    clear hge'
    obtain ⟨k, rfl⟩ := Int.eq_ofNat_of_zero_le hn0
    rw [if_neg (by simp)]
    by_cases hk : (T.length : Int) < (k : Int)
    · rw [if_pos hk]
      have hk' : T.length < k := by omega
      go_enter Try.func19, Try.ntmps19
      go_wp2_with fail
      refine HN2.out.mono ?_
      rintro e w1 ⟨rfl, hb1, hl1⟩
      obtain ⟨hc1, hf1⟩ := box_facts hb1.out
      obtain ⟨hh, oo, cap, hg, _, _, _⟩ := hb1.out
      have hc0 := box_cell0 hg
      clear hg
      go_wp2_with fail
      refine (err_any g T 0 _ hb1).mono ?_
      rintro e w' ⟨rfl, rfl⟩
      go_wp2_with fail
      go_ret
      exact ⟨rfl, box_fail hb1.out 3, hl1.out.trans (only_set (Only.refl _ _) _ _)⟩
    · rw [if_neg hk, Int.toNat_natCast]
      have hk' : k ≤ T.length := by omega
      go_enter Try.func19, Try.ntmps19
      go_wp2_with fail
      refine HN2.out.mono ?_
      rintro e w1 ⟨rfl, hb1, hl1⟩
      obtain ⟨hc1, hf1⟩ := box_facts hb1.out
      obtain ⟨hh, oo, cap, hg, hcap, hne, hat⟩ := hb1.out
      have hc0 := box_cell0 hg
      have hf0 := box_free (i := 0) hg
      have HG := Lib.hid (fun _ : True => hg)
      have HA := Lib.hid hat
      have hq : (convert 23 9 (.slice (some ⟨hh, oo, none⟩) k cap)).run Try.prog w1 = .ok (.string (sv (T.take k))) w1 := at_reads hat k hk' w1 (Below.refl _ _)
      clear hg hat
      by_cases hcs : cap = k
      · subst hcs
        go_wp2_with fail
        refine (err_any g T 0 _ hb1).mono ?_
        rintro e w' ⟨rfl, rfl⟩
        go_wp2_with fail
        go_ret
        refine ⟨rfl, ⟨hh, oo, cap - cap, ?_, by rw [List.length_drop]; omega, hne, at_nil (by rw [List.length_drop]; omega)⟩, hl1.out.trans (only_set (Only.refl _ _) _ _)⟩
        rw [List.length_drop, show T.length - cap = 0 by omega, Nat.sub_self]
        exact box_set0 (HG.out trivial) _
      · go_wp2_with fail
        refine (err_any g T 0 _ hb1).mono ?_
        rintro e w' ⟨rfl, rfl⟩
        go_wp2_with fail
        go_ret
        refine ⟨rfl, ⟨hh, oo + k, cap - k, ?_, by rw [List.length_drop]; omega, hne, at_set (at_drop HA.out k) _ _ hne _⟩, hl1.out.trans (only_set (Only.refl _ _) _ _)⟩
        rw [List.length_drop]
        exact box_set0 (HG.out trivial) _
  · rw [if_pos he]
    go_enter Try.func19, Try.ntmps19
    go_wp2_with fail
    refine HN2.out.mono ?_
    rintro e w1 ⟨rfl, hb1, hl1⟩
    go_wp2_with fail
    refine (err_any g T er _ hb1).mono ?_
    rintro e w' ⟨rfl, rfl⟩
    go_wp2_with fail
    go_ret
    exact ⟨rfl, hb1.out, hl1.out⟩
end Go.Proofs.Ytflgodphphbbjaa
