/- The scanner of package lex: a token, a word. -/
import Derived.Test.YtfpjeokncdlofaaLexO
namespace Go.Proofs.Ytfpjeokncdlofaa
open Go.ChangeShapes Go.WideShapes Go.ChangeAt Go.RowKit Go.Joins
open Go.Proofs.Ytfpjeokncdlofaa.Fn (st st_size st_list st_extract)
set_option linter.unusedVariables false
set_option maxRecDepth 20000

theorem wordB_cons {c : UInt8} {t : List UInt8} {p : Nat × Nat} (h : ofW c = true) : (wordB (c :: t) p).1 = c :: (wordB t (adv c p)).1 := by
  rw [wordB, if_pos h]
theorem ofW_of {c : UInt8} (h0 : blankB c = false) (h1 : c ≠ 40) (h2 : c ≠ 41) (h3 : c ≠ 34) (h4 : c ≠ 59) : ofW c = true := by
  unfold ofW
  rw [h0, beq_eq_false_iff_ne.2 h1, beq_eq_false_iff_ne.2 h2, beq_eq_false_iff_ne.2 h3, beq_eq_false_iff_ne.2 h4]
  rfl
theorem only_drew {S : Nat → Prop} {w w' : World} (h : Only S w.drew w') : Only S w w' := ⟨h.os, h.tape, h.output, h.size, h.block⟩
/-- what the two calls of a word's token do -/
theorem word_calls (g : Nat) (c : UInt8) (t : List UInt8) (p : Nat × Nat) (hf : Fit (c :: t) p) (ho : ofW c = true) (hw : (wordB (c :: t) p).1.length ≤ 6000) (w : World) (hS : Sc ((w.alloc tok0).alloc (pos0 p)) g (c :: t) p.1 p.2) (hI : InTok w g p.1 p.2 ((w.alloc tok0).alloc (pos0 p))) (tw : ByteArray) (htw : st (wordB (c :: t) p).1 = tw) :
    Hid (Calls Try.prog 37 #[.pointer (some ⟨g, 0, none⟩)] (((w.alloc tok0).alloc (pos0 p)).drew) fun e w9 => e = .returned (.string tw) ∧ KeptK w w9 p.1 p.2 ∧ Hid (Sc w9 g (wordB (c :: t) p).2.1 (wordB (c :: t) p).2.2.1 (wordB (c :: t) p).2.2.2 ∧ InTok w g p.1 p.2 w9)) ∧
    Hid (∀ w9, Hid (Sc w9 g (wordB (c :: t) p).2.1 (wordB (c :: t) p).2.2.1 (wordB (c :: t) p).2.2.2 ∧ InTok w g p.1 p.2 w9) → Calls Try.prog 36 #[.string tw, .agg #[.int .i64 (p.1 : Int), .int .i64 (p.2 : Int)]] w9 fun e w' =>
      ((∃ k n b, wordS (wordB (c :: t) p).1 = some (k, n, b) ∧ e = .returned (tokV p k n b)) ∨ (wordS (wordB (c :: t) p).1 = none ∧ e = thrown p.1 p.2 10)) ∧ KeptK w w' p.1 p.2 ∧ Hid (Sc w' g (wordB (c :: t) p).2.1 (wordB (c :: t) p).2.2.1 (wordB (c :: t) p).2.2.2 ∧ InTok w g p.1 p.2 w')) := by
  refine ⟨Lib.hid ?_, Lib.hid fun w9 h9 => ?_⟩
  · refine (word_any g (c :: t) p hf _ (Lib.hid (show Sc (((w.alloc tok0).alloc (pos0 p)).drew) g (c :: t) p.1 p.2 from hS))).mono ?_
    rintro e w9 ⟨rfl, hs9, ho9⟩
    have hI9 : InTok w g p.1 p.2 w9 := hI.go (only_drew ho9.out)
    exact ⟨by rw [htw], hI9.kept, Lib.hid ⟨hs9.out, hI9⟩⟩
  · obtain ⟨hs9, hI9⟩ := h9.out
    rw [wordB_cons ho] at hw
    refine (show Calls _ _ _ _ _ from (htw ▸ (wordB_cons (t := t) (p := p) ho).symm ▸ wordToken_all c (wordB t (adv c p)).1 hw p w9)).mono ?_
    rintro e w' ⟨he, hb⟩
    have hI' : InTok w g p.1 p.2 w' := hI9.go (Only.of_below hb.out)
    exact ⟨he, hI'.kept, Lib.hid ⟨sc_later hs9 hb.out, hI'⟩⟩
set_option maxHeartbeats 4000000 in
theorem token_word (g : Nat) (c : UInt8) (t : List UInt8) (p : Nat × Nat) (hf : Fit (c :: t) p) (ho : ofW c = true) (h40 : c ≠ 40) (h41 : c ≠ 41) (h34 : c ≠ 34) (hw : (wordB (c :: t) p).1.length ≤ 6000) (k n : Int) (b : List UInt8) (hs : wordS (wordB (c :: t) p).1 = some (k, n, b)) (w : World) (h : Hid (Sc w g (c :: t) p.1 p.2)) :
    Calls Try.prog 30 #[.pointer (some ⟨g, 0, none⟩)] w fun e w' => e = .returned (tokV p k n b) ∧ Hid (Sc w' g (wordB (c :: t) p).2.1 (wordB (c :: t) p).2.2.1 (wordB (c :: t) p).2.2.2) ∧ Hid (Only (· = g) w w') := by
  have HG : Hid (g < w.heap.size) := Lib.hid (sc_lt h.out)
  obtain ⟨⟨c1, c2⟩, c0, hS, hI⟩ := token_cells h.out
  have hix := idx0 c t
  obtain ⟨tw, htw⟩ : ∃ s, st (wordB (c :: t) p).1 = s := ⟨_, rfl⟩
  obtain ⟨HX, HY0⟩ := word_calls g c t p hf ho hw w hS hI tw htw
  obtain ⟨tb, htb⟩ : ∃ s, st b = s := ⟨_, rfl⟩
  have HTb := Lib.hid (fun _ : True => htb)
  have HY : Hid (∀ w9, Hid (Sc w9 g (wordB (c :: t) p).2.1 (wordB (c :: t) p).2.2.1 (wordB (c :: t) p).2.2.2 ∧ InTok w g p.1 p.2 w9) → Calls Try.prog 36 #[.string tw, .agg #[.int .i64 (p.1 : Int), .int .i64 (p.2 : Int)]] w9 fun e w' =>
      e = .returned (.agg #[.int .i64 k, .int .i64 (p.1 : Int), .int .i64 (p.2 : Int), .int .i64 n, .string tb]) ∧ KeptK w w' p.1 p.2 ∧ Hid (Sc w' g (wordB (c :: t) p).2.1 (wordB (c :: t) p).2.2.1 (wordB (c :: t) p).2.2.2 ∧ InTok w g p.1 p.2 w')) := Lib.hid fun w9 h9 => by
    refine (HY0.out w9 h9).mono ?_
    rintro e w' ⟨(⟨k', n', b', he, rfl⟩ | ⟨he, rfl⟩), h2⟩
    · rw [hs] at he; cases he; exact ⟨by rw [← htb]; rfl, h2⟩
    · rw [hs] at he; cases he
  obtain ⟨R, hR⟩ : ∃ R, (wordB (c :: t) p).2 = R := ⟨_, rfl⟩
  rw [hR] at HX HY ⊢
  clear HY0
  obtain ⟨x, hx⟩ : ∃ x, c.toNat = x := ⟨_, rfl⟩
  have key : ∀ d : UInt8, c ≠ d → ((x : Int) == ((d.toNat : Nat) : Int)) = false := fun d hd => by
    have h1 : ¬ x = d.toNat := fun e => hd (UInt8.toNat_inj.1 (hx.trans e))
    rw [beq_eq_false_iff_ne]; omega
  have k40 : ((x : Int) == 40) = false := key 40 h40
  have k41 : ((x : Int) == 41) = false := key 41 h41
  have k34 : ((x : Int) == 34) = false := key 34 h34
  rw [hx] at hix
  obtain ⟨s0, hs0⟩ : ∃ s, st (c :: t) = s := ⟨_, rfl⟩
  rw [hs0] at hix c0
  unfold tok0 at c0 c1 c2
  unfold pos0 at c0
  clear hs0 h hf hS hI hs htb htw hR hx key ho hw h40 h41 h34
  go_enter Try.func30, Try.ntmps30
  go_wp2_with fail
  go_region_with (first
    | (go_at_call 37; refine HX.out.mono ?_; rintro e w9 ⟨rfl, ⟨k0, k1, ⟨k2, k3, k4, k5, k6⟩, k7, k8, k9, ka, kb⟩, HS9⟩)
    | (go_at_call 36; refine (HY.out _ HS9).mono ?_; clear k0 k1 k2 k3 k4 k5 k6 k7 k8 k9 ka kb HS9; rintro e w10 ⟨rfl, ⟨k0, k1, ⟨k2, k3, k4, k5, k6⟩, k7, k8, k9, ka, kb⟩, HS10⟩))
  all_goals
    go_wp2_with fail
    refine bodyPost_ret (v := tokV p k n b) ?_ rfl ⟨rfl, ?_, ?_⟩
    · simp [results, Try.results30]
      go_simp
      unfold tokV
      rw [HTb.out trivial]
    · exact Lib.hid (sc_new5 HG.out HS10.out.1 _ _ _ _ _)
    · exact Lib.hid (only_new5 HS10.out.2.1 _ _ _ _ _)
set_option maxHeartbeats 4000000 in
theorem token_word_no (g : Nat) (c : UInt8) (t : List UInt8) (p : Nat × Nat) (hf : Fit (c :: t) p) (ho : ofW c = true) (h40 : c ≠ 40) (h41 : c ≠ 41) (h34 : c ≠ 34) (hw : (wordB (c :: t) p).1.length ≤ 6000) (hs : wordS (wordB (c :: t) p).1 = none) (w : World) (h : Hid (Sc w g (c :: t) p.1 p.2)) :
    Calls Try.prog 30 #[.pointer (some ⟨g, 0, none⟩)] w fun e w' => e = thrown p.1 p.2 10 ∧ Hid (Only (· = g) w w') := by
  have HG : Hid (g < w.heap.size) := Lib.hid (sc_lt h.out)
  obtain ⟨⟨c1, c2⟩, c0, hS, hI⟩ := token_cells h.out
  have hix := idx0 c t
  obtain ⟨tw, htw⟩ : ∃ s, st (wordB (c :: t) p).1 = s := ⟨_, rfl⟩
  obtain ⟨HX, HY0⟩ := word_calls g c t p hf ho hw w hS hI tw htw
  have HY : Hid (∀ w9, Hid (Sc w9 g (wordB (c :: t) p).2.1 (wordB (c :: t) p).2.2.1 (wordB (c :: t) p).2.2.2 ∧ InTok w g p.1 p.2 w9) → Calls Try.prog 36 #[.string tw, .agg #[.int .i64 (p.1 : Int), .int .i64 (p.2 : Int)]] w9 fun e w' =>
      e = .panicked [{ v := .iface 53 (.agg #[.int .i64 (p.1 : Int), .int .i64 (p.2 : Int), .int .i64 10]), recovered := false }] ∧ KeptK w w' p.1 p.2 ∧ Hid (Sc w' g (wordB (c :: t) p).2.1 (wordB (c :: t) p).2.2.1 (wordB (c :: t) p).2.2.2 ∧ InTok w g p.1 p.2 w')) := Lib.hid fun w9 h9 => by
    refine (HY0.out w9 h9).mono ?_
    rintro e w' ⟨(⟨k', n', b', he, rfl⟩ | ⟨he, rfl⟩), h2⟩
    · rw [hs] at he; cases he
    · exact ⟨rfl, h2⟩
  obtain ⟨R, hR⟩ : ∃ R, (wordB (c :: t) p).2 = R := ⟨_, rfl⟩
  rw [hR] at HX HY
  clear HY0
  obtain ⟨x, hx⟩ : ∃ x, c.toNat = x := ⟨_, rfl⟩
  have key : ∀ d : UInt8, c ≠ d → ((x : Int) == ((d.toNat : Nat) : Int)) = false := fun d hd => by
    have h1 : ¬ x = d.toNat := fun e => hd (UInt8.toNat_inj.1 (hx.trans e))
    rw [beq_eq_false_iff_ne]; omega
  have k40 : ((x : Int) == 40) = false := key 40 h40
  have k41 : ((x : Int) == 41) = false := key 41 h41
  have k34 : ((x : Int) == 34) = false := key 34 h34
  rw [hx] at hix
  obtain ⟨s0, hs0⟩ : ∃ s, st (c :: t) = s := ⟨_, rfl⟩
  rw [hs0] at hix c0
  unfold tok0 at c0 c1 c2
  unfold pos0 at c0
  clear hs0 h hf hS hI hs htw hR hx key ho hw h40 h41 h34
  go_enter Try.func30, Try.ntmps30
  go_wp2_with fail
  refine wp_region_any (by kernel_rfl) ?_
  change wpAny _ _ _ _ _ _ _ (World.drew _)
  refine wpAny_take (i := 0) (v := ?v) rfl (by kernel_rfl) (by kernel_rfl) (by kernel_rfl) (fun _ _ _ h => h) (Or.inl ⟨by rfl, ?hy⟩) ?rest
  case hy => intro w; go_simp; try with_reducible rfl
  refine wpAny_ready (rs := [1, 2]) (by kernel_rfl) (by simp) ?_
  refine AllReady.cons rfl (fun K hK => ?_) (AllReady.cons rfl (fun K hK => ?_) AllReady.nil)
  · go_simp
    go_wp2_with (go_at_call 37; refine HX.out.mono ?_; rintro e w9 ⟨rfl, ⟨k0, k1, ⟨k2, k3, k4, k5, k6⟩, k7, k8, k9, ka, kb⟩, HS9⟩)
    try (refine hK _ _ ?_; clear hK K)
    refine wpAny_ready (rs := [2]) (by kernel_rfl) (by simp) ?_
    refine AllReady.cons rfl (fun K hK => ?_) AllReady.nil
    go_simp
    refine hK _ _ ?_
    clear hK K
    refine wpAny_ready (rs := [3]) (by kernel_rfl) (by simp) ?_
    refine AllReady.cons rfl (fun K hK => ?_) AllReady.nil
    go_simp
    go_wp2_with (go_at_call 36; refine (HY.out _ HS9).mono ?_; clear k0 k1 k2 k3 k4 k5 k6 k7 k8 k9 ka kb HS9; rintro e w10 ⟨rfl, ⟨k0, k1, ⟨k2, k3, k4, k5, k6⟩, k7, k8, k9, ka, kb⟩, HS10⟩; go_loud (go_simp; exact ⟨rfl, rfl, Lib.hid HS10.out.2.1⟩))
  · go_simp
    refine hK _ _ ?_
    clear hK K
    refine wpAny_ready (rs := [1]) (by kernel_rfl) (by simp) ?_
    refine AllReady.cons rfl (fun K hK => ?_) AllReady.nil
    go_simp
    go_wp2_with (go_at_call 37; refine HX.out.mono ?_; rintro e w9 ⟨rfl, ⟨k0, k1, ⟨k2, k3, k4, k5, k6⟩, k7, k8, k9, ka, kb⟩, HS9⟩)
    try (refine hK _ _ ?_; clear hK K)
    refine wpAny_ready (rs := [3]) (by kernel_rfl) (by simp) ?_
    refine AllReady.cons rfl (fun K hK => ?_) AllReady.nil
    go_simp
    go_wp2_with (go_at_call 36; refine (HY.out _ HS9).mono ?_; clear k0 k1 k2 k3 k4 k5 k6 k7 k8 k9 ka kb HS9; rintro e w10 ⟨rfl, ⟨k0, k1, ⟨k2, k3, k4, k5, k6⟩, k7, k8, k9, ka, kb⟩, HS10⟩; go_loud (go_simp; exact ⟨rfl, rfl, Lib.hid HS10.out.2.1⟩))
end Go.Proofs.Ytfpjeokncdlofaa
