/- Contracts of the reading side: Str; Num behind an error. No condition but that the bytes are few. -/
import Derived.Test.YtflgodphphbbjaaRead
namespace Go.Proofs.Ytflgodphphbbjaa
open Go.ChangeShapes Go.WideShapes Go.ChangeAt Go.RowKit Go.Lib

set_option maxRecDepth 20000 in
theorem inNum_err (g : Nat) (L : List Nat) (err least most : Int) (he : err ≠ 0) (w : World) (hb : Hid (Box w g L err)) :
    Calls Try.prog 15 #[.pointer (some ⟨g, 0, none⟩), .int .i64 least, .int .i64 most] w fun e w' => e = .returned (.int .i64 0) ∧ w = w' := by
  have HE := Lib.hid (err_any g L err w hb)
  go_enter Try.func15, Try.ntmps15
  go_wp2_with fail
  refine HE.out.mono ?_
  rintro e w' ⟨rfl, rfl⟩
  go_wp2_with fail
  go_ret
  exact ⟨rfl, rfl⟩
set_option maxRecDepth 20000 in
theorem inStr_err (g : Nat) (L : List Nat) (err most : Int) (he : err ≠ 0) (w : World) (hb : Hid (Box w g L err)) :
    Calls Try.prog 19 #[.pointer (some ⟨g, 0, none⟩), .int .i64 most] w fun e w' => e = .returned (.string { data := #[] }) ∧ w = w' := by
  have HE := Lib.hid (err_any g L err w hb)
  have HN := Lib.hid (inNum_err g L err 0 most he w hb)
  go_enter Try.func19, Try.ntmps19
  go_wp2_with fail
  refine HN.out.mono ?_
  rintro e w' ⟨rfl, rfl⟩
  go_wp2_with fail
  refine HE.out.mono ?_
  rintro e w' ⟨rfl, rfl⟩
  go_wp2_with fail
  go_ret
  exact ⟨rfl, rfl⟩
set_option maxRecDepth 20000 in
set_option maxHeartbeats 2000000 in
theorem inStr_any (g : Nat) (L : List Nat) (most : Int) (hn : L.length ≤ 1000000) (hB : ∀ b ∈ L, b < 256) (w : World) (hb : Hid (Box w g L 0)) :
    Calls Try.prog 19 #[.pointer (some ⟨g, 0, none⟩), .int .i64 most] w fun e w' => e = .returned (.string (sv (rdS most L).1)) ∧ Box w' g (rdS most L).2.1 (rdS most L).2.2 ∧ Below g w w' := by
  have HN := Lib.hid (inNum_any g L 0 most hn hB w hb)
  have hge := rdB_ge most L
  obtain ⟨n, sz, er, hr⟩ : ∃ n sz er, rdB 0 most L = (n, sz, er) := ⟨_, _, _, rfl⟩
  have hS : rdS most L = if er ≠ 0 then ([], L.drop sz, er) else if ((L.drop sz).length : Int) < n then ([], L.drop sz, 3) else ((L.drop sz).take n.toNat, (L.drop sz).drop n.toNat, 0) := by unfold rdS; rw [hr]
  rw [hr] at HN hge
  have hge' : er = 0 → 0 ≤ n := hge
  have hTl : (L.drop sz).length ≤ 1000000 := by rw [List.length_drop]; omega
  rw [hS]
  obtain ⟨T, hT⟩ : ∃ T, L.drop sz = T := ⟨_, rfl⟩
  have HN2 : Hid (Calls Try.prog 15 #[.pointer (some ⟨g, 0, none⟩), .int .i64 0, .int .i64 most] w fun e w' => e = .returned (.int .i64 n) ∧ Hid (Box w' g T er) ∧ Hid (Below g w w')) :=
    Lib.hid (HN.out.mono fun e w' ⟨h1, h2, h3⟩ => ⟨h1, Lib.hid (by rw [← hT]; exact h2), Lib.hid h3⟩)
  rw [hT] at hTl ⊢
  clear HN hge hr hS hT hB hn
  by_cases he : er = 0
  · subst he
    have hn0 := hge' rfl
    clear hge'
    obtain ⟨k, rfl⟩ := Int.eq_ofNat_of_zero_le hn0
    rw [if_neg (by simp)]
    by_cases hk : (T.length : Int) < (k : Int)
    · rw [if_pos hk]
      have hk' : T.length < k := by omega
      go_enter Try.func19, Try.ntmps19
      go_wp2_with fail
      refine HN2.out.mono ?_
      rintro e w1 ⟨rfl, hb1, hl1⟩
      obtain ⟨hc1, hf1⟩ := box_facts hb1.out
      obtain ⟨hh, oo, cap, hg, _, _, _⟩ := hb1.out
      have hc0 := box_cell0 hg
      clear hg
      go_wp2_with fail
      refine (err_any g T 0 _ hb1).mono ?_
      rintro e w' ⟨rfl, rfl⟩
      go_wp2_with fail
      go_ret
      exact ⟨rfl, box_fail hb1.out 3, hl1.out.trans (below_set _ _ _ _)⟩
    · rw [if_neg hk, Int.toNat_natCast]
      have hk' : k ≤ T.length := by omega
      go_enter Try.func19, Try.ntmps19
      go_wp2_with fail
      refine HN2.out.mono ?_
      rintro e w1 ⟨rfl, hb1, hl1⟩
      obtain ⟨hc1, hf1⟩ := box_facts hb1.out
      obtain ⟨hh, oo, cap, hg, hcap, hne, hat⟩ := hb1.out
      have hc0 := box_cell0 hg
      have hf0 := box_free (i := 0) hg
      have HG := Lib.hid (fun _ : True => hg)
      have HA := Lib.hid hat
      have hq : (convert 23 9 (.slice (some ⟨hh, oo, none⟩) k cap)).run Try.prog w1 = .ok (.string (sv (T.take k))) w1 := at_reads hat k hk' w1 (Below.refl _ _)
      clear hg hat
      by_cases hcs : cap = k
      · subst hcs
        go_wp2_with fail
        refine (err_any g T 0 _ hb1).mono ?_
        rintro e w' ⟨rfl, rfl⟩
        go_wp2_with fail
        go_ret
        refine ⟨rfl, ⟨hh, oo, cap - cap, ?_, by rw [List.length_drop]; omega, hne, at_nil (by rw [List.length_drop]; omega)⟩, hl1.out.trans (below_set _ _ _ _)⟩
        rw [List.length_drop, show T.length - cap = 0 by omega, Nat.sub_self]
        exact box_set0 (HG.out trivial) _
      · go_wp2_with fail
        refine (err_any g T 0 _ hb1).mono ?_
        rintro e w' ⟨rfl, rfl⟩
        go_wp2_with fail
        go_ret
        refine ⟨rfl, ⟨hh, oo + k, cap - k, ?_, by rw [List.length_drop]; omega, hne, at_set (at_drop HA.out k) _ _ hne _⟩, hl1.out.trans (below_set _ _ _ _)⟩
        rw [List.length_drop]
        exact box_set0 (HG.out trivial) _
  · rw [if_pos he]
    go_enter Try.func19, Try.ntmps19
    go_wp2_with fail
    refine HN2.out.mono ?_
    rintro e w1 ⟨rfl, hb1, hl1⟩
    go_wp2_with fail
    refine (err_any g T er _ hb1).mono ?_
    rintro e w' ⟨rfl, rfl⟩
    go_wp2_with fail
    go_ret
    exact ⟨rfl, hb1.out, hl1.out⟩
end Go.Proofs.Ytflgodphphbbjaa
