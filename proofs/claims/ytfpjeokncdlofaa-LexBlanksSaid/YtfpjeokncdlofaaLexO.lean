/- The scanner of package lex: a token, a string. -/
import Derived.Test.YtfpjeokncdlofaaLexN
namespace Go.Proofs.Ytfpjeokncdlofaa
open Go.ChangeShapes Go.WideShapes Go.ChangeAt Go.RowKit Go.Joins
open Go.Proofs.Ytfpjeokncdlofaa.Fn (st st_size st_list st_extract)
set_option linter.unusedVariables false
set_option maxRecDepth 20000

set_option maxHeartbeats 4000000 in
theorem token_text (g : Nat) (t : List UInt8) (p : Nat × Nat) (hf : Fit (34 :: t) p) (b l : List UInt8) (q : Nat × Nat) (hs : strS p t.length t (adv 34 p) [] = .ok (b, l, q)) (w : World) (h : Hid (Sc w g (34 :: t) p.1 p.2)) :
    Calls Try.prog 30 #[.pointer (some ⟨g, 0, none⟩)] w fun e w' => e = .returned (tokV p 4 0 b) ∧ Hid (Sc w' g l q.1 q.2) ∧ Hid (Only (· = g) w w') := by
  have HG : Hid (g < w.heap.size) := Lib.hid (sc_lt h.out)
  obtain ⟨⟨c1, c2⟩, c0, hS, hI⟩ := token_cells h.out
  have hix := idx0 34 t
  obtain ⟨tb, htb⟩ : ∃ s, st b = s := ⟨_, rfl⟩
  have HTb := Lib.hid (fun _ : True => htb)
  have HX : Hid (Calls Try.prog 35 #[.pointer (some ⟨g, 0, none⟩)] (((w.alloc tok0).alloc (pos0 p)).drew) fun e w9 => e = .returned (.string tb) ∧ KeptK w w9 p.1 p.2 ∧ Hid (Sc w9 g l q.1 q.2 ∧ InTok w g p.1 p.2 w9)) := Lib.hid (by
    refine (text_any g t p hf _ (Lib.hid (show Sc (((w.alloc tok0).alloc (pos0 p)).drew) g (34 :: t) p.1 p.2 from hS))).mono ?_
    rintro e w9 ⟨(⟨b2, l2, q2, he, rfl, hs9⟩ | ⟨r, he, rfl⟩), ho⟩
    · rw [hs] at he
      cases he
      have hI9 : InTok w g p.1 p.2 w9 := hI.go (⟨ho.out.os, ho.out.tape, ho.out.output, ho.out.size, ho.out.block⟩)
      exact ⟨by rw [htb], hI9.kept, Lib.hid ⟨hs9.out, hI9⟩⟩
    · rw [hs] at he; cases he)
  obtain ⟨s0, hs0⟩ : ∃ s, st (34 :: t) = s := ⟨_, rfl⟩
  rw [hs0] at hix c0
  unfold tok0 at c0 c1 c2
  unfold pos0 at c0
  clear hs0 h hf hS hI hs htb
  go_enter Try.func30, Try.ntmps30
  go_wp2_with fail
  go_region_with (go_at_call 35; refine HX.out.mono ?_; rintro e w9 ⟨rfl, ⟨k0, k1, ⟨k2, k3, k4, k5, k6⟩, k7, k8, k9, ka, kb⟩, HS9⟩)
  all_goals
    go_wp2_with fail
    refine bodyPost_ret (v := tokV p 4 0 b) ?_ rfl ⟨rfl, ?_, ?_⟩
    · simp [results, Try.results30]
      go_simp
      unfold tokV
      rw [HTb.out trivial]
    · exact Lib.hid (sc_new5 HG.out HS9.out.1 _ _ _ _ _)
    · exact Lib.hid (only_new5 HS9.out.2.1 _ _ _ _ _)
set_option maxHeartbeats 4000000 in
theorem token_text_no (g : Nat) (t : List UInt8) (p : Nat × Nat) (hf : Fit (34 :: t) p) (r : Nat × Nat) (hs : strS p t.length t (adv 34 p) [] = .error r) (w : World) (h : Hid (Sc w g (34 :: t) p.1 p.2)) :
    Calls Try.prog 30 #[.pointer (some ⟨g, 0, none⟩)] w fun e w' => e = thrown r.1 r.2 10 ∧ Hid (Only (· = g) w w') := by
  have HG : Hid (g < w.heap.size) := Lib.hid (sc_lt h.out)
  obtain ⟨⟨c1, c2⟩, c0, hS, hI⟩ := token_cells h.out
  have hix := idx0 34 t
  have HX : Hid (Calls Try.prog 35 #[.pointer (some ⟨g, 0, none⟩)] (((w.alloc tok0).alloc (pos0 p)).drew) fun e w9 => e = thrown r.1 r.2 10 ∧ KeptK w w9 p.1 p.2 ∧ Hid (InTok w g p.1 p.2 w9)) := Lib.hid (by
    refine (text_any g t p hf _ (Lib.hid (show Sc (((w.alloc tok0).alloc (pos0 p)).drew) g (34 :: t) p.1 p.2 from hS))).mono ?_
    rintro e w9 ⟨(⟨b2, l2, q2, he, rfl, hs9⟩ | ⟨r2, he, rfl⟩), ho⟩
    · rw [hs] at he; cases he
    · rw [hs] at he
      cases he
      have hI9 : InTok w g p.1 p.2 w9 := hI.go (⟨ho.out.os, ho.out.tape, ho.out.output, ho.out.size, ho.out.block⟩)
      exact ⟨rfl, hI9.kept, Lib.hid hI9⟩)
  obtain ⟨s0, hs0⟩ : ∃ s, st (34 :: t) = s := ⟨_, rfl⟩
  rw [hs0] at hix c0
  unfold tok0 at c0 c1 c2
  unfold pos0 at c0
  clear hs0 h hf hS hI hs
  unfold thrown at HX ⊢
  go_enter Try.func30, Try.ntmps30
  go_wp2_with fail
  refine wp_region_any (by kernel_rfl) ?_
  change wpAny _ _ _ _ _ _ _ (World.drew _)
  refine wpAny_take (i := 1) (v := ?v) rfl (by kernel_rfl) (by kernel_rfl) (by kernel_rfl) (fun _ _ _ h => h) (Or.inl ⟨by rfl, ?hy⟩) ?rest
  case hy => intro w; go_simp; try with_reducible rfl
  refine wpAny_ready (rs := [0, 2]) (by kernel_rfl) (by simp) ?_
  refine AllReady.cons rfl (fun K hK => ?_) (AllReady.cons rfl (fun K hK => ?_) AllReady.nil)
  · go_simp
    refine hK _ _ ?_
    clear hK K
    refine wpAny_ready (rs := [2]) (by kernel_rfl) (by simp) ?_
    refine AllReady.cons rfl (fun K hK => ?_) AllReady.nil
    go_simp
    go_wp2_with (go_at_call 35; refine HX.out.mono ?_; rintro e w9 ⟨rfl, ⟨k0, k1, ⟨k2, k3, k4, k5, k6⟩, k7, k8, k9, ka, kb⟩, HS9⟩; go_loud (go_simp; exact ⟨rfl, rfl, Lib.hid HS9.out.1⟩))
  · go_simp
    go_wp2_with (go_at_call 35; refine HX.out.mono ?_; rintro e w9 ⟨rfl, ⟨k0, k1, ⟨k2, k3, k4, k5, k6⟩, k7, k8, k9, ka, kb⟩, HS9⟩; go_loud (go_simp; exact ⟨rfl, rfl, Lib.hid HS9.out.1⟩))
end Go.Proofs.Ytfpjeokncdlofaa
