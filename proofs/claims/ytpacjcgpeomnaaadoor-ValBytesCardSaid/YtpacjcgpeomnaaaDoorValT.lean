/- A value's text. -/
import Derived.Test.YtpacjcgpeomnaaaDoorValY
import Derived.Test.YtpacjcgpeomnaaaDoorReg
namespace Go.Proofs.YtpacjcgpeomnaaaDoor
open Go.ChangeShapes Go.WideShapes Go.ChangeAt Go.RowKit
open Go.Proofs.YtpacjcgpeomnaaaDoor.Fw (zz vb bytesOf cells)
open Go.Proofs.YtpacjcgpeomnaaaDoor.Fd (st st_size)
set_option linter.unusedVariables false
set_option maxRecDepth 20000

theorem quote_lt (l : List Nat) (h : ∀ b ∈ l, b < 256) : ∀ b ∈ quoteN l, b < 256 := by
  intro b hb
  unfold quoteN at hb
  rcases List.mem_append.1 hb with hb | hb
  · rcases List.mem_cons.1 hb with rfl | hb
    · decide
    · obtain ⟨c, hc, hb⟩ := List.mem_flatMap.1 hb
      have h1 := h c hc
      unfold qB at hb
      split at hb
      · simp at hb; omega
      · split at hb
        · simp only [List.mem_cons, List.not_mem_nil, or_false] at hb
          have h3 := hexD_lt (c / 16)
          have h4 := hexD_lt (c % 16)
          rcases hb with rfl | rfl | rfl | rfl <;> omega
        · simp at hb; omega
  · simp at hb; omega
theorem bytes_lt (s : ByteArray) : ∀ b ∈ bytesOf s, b < 256 := fun b hb => by
  unfold Fw.bytesOf at hb
  obtain ⟨c, _, rfl⟩ := List.mem_map.1 hb
  exact c.toNat_lt
theorem cnt_kid {l : List T} : ∀ {x : T}, x ∈ l → x.cnt ≤ T.cnts l := by
  induction l with
  | nil => intro x h; cases h
  | cons v vs ih =>
    intro x h
    rw [cnts_cons]
    rcases List.mem_cons.1 h with rfl | h
    · omega
    · have := ih h; omega
set_option maxHeartbeats 8000000 in
theorem text_any (n₀ : Nat) (v : V) : InF (er v) → (er v).cnt ≤ 100000 → TextOk n₀ v := by
  induction v using V.ind with
  | h k n t ap cap ks ih =>
    intro hin hcn W hL hn ht
    have hks : er (.mk k n t ap cap ks) = .mk k n t (ks.map er) := by rw [er_eq]; rfl
    rw [hks] at hin hcn
    have hc2 : T.cnt (.mk k n t (ks.map er)) = 1 + T.cnts (ks.map er) := T.cnt_eq _
    obtain ⟨f1, f2, f3⟩ := form_casesT hin.self
    have f1 : k = 1 → t.size = 8 := f1
    have f2 : k = 2 → t.size ≤ 4096 := f2
    have f3 : ks.length ≤ 8 := by have : (ks.map er).length ≤ 8 := f3; rwa [List.length_map] at this
    have hin2 : ∀ x ∈ ks, InF (er x) := fun x hx => hin.kid (List.mem_map_of_mem hx)
    have hih : ∀ x ∈ ks, TextOk n₀ x := fun x hx => ih x hx (hin2 x hx) (by have := cnt_kid (List.mem_map_of_mem (f := er) hx); omega)
    rw [hks, text_eq, V.val_eq]
    simp only [List.length_map]
    have hok : ks.length ≤ cap := hL.ok.2.2.2.1
    obtain ⟨W1, hW1⟩ : ∃ W1, W.alloc (.cells #[.int .i64 k, .int .i64 n, .string t, .slice ap ks.length cap] 24) = W1 := ⟨_, rfl⟩
    have hB1 : Below W.heap.size W W1 := by rw [← hW1]; exact (Below.refl _ _).alloc (Nat.le_refl _) _
    have hbox : W1.heap[W.heap.size]? = some (.cells #[.int .i64 k, .int .i64 n, .string t, .slice ap ks.length cap] 24 (0, 0)) := by rw [← hW1]; exact World.alloc_heap_new W _
    have HBx : Hid (∀ W', Below W1.heap.size W1 W' → W'.cell? ⟨W.heap.size, 0, none⟩ = some (.int .i64 k) ∧ W'.cell? ⟨W.heap.size, 1, none⟩ = some (.int .i64 n) ∧ W'.cell? ⟨W.heap.size, 2, none⟩ = some (.string t) ∧ W'.cell? ⟨W.heap.size, 3, none⟩ = some (.slice ap ks.length cap)) := Lib.hid fun W' h => box4_later hbox h
    obtain ⟨b0, b1, b2, b3⟩ := box4 hbox
    have HB1 := Lib.hid hB1
    have HLs : Hid (∀ W', Below W1.heap.size W1 W' → Calls Tryd.prog 64 #[.slice ap ks.length cap] W' fun e w' => e = .returned (.string (st (listT (ks.map er)))) ∧ Hid (Below W'.heap.size W' w')) := Lib.hid fun W' h => by
      have hb : Below n₀ W W' := (hB1.mono hn).trans (h.mono (Nat.le_trans hn hB1.size))
      have htb := tab_later (tab_later ht hB1) h
      have hnn : n₀ ≤ W'.heap.size := Nat.le_trans (Nat.le_trans hn hB1.size) h.size
      rcases hL.row with e | ⟨g, o, ea, hg, hr⟩
      · have e : ks = [] := e
        subst e
        exact list_any n₀ [] 0 0 cap hok (by simp) (fun x hx => by cases hx) (by unfold T.cnts; simp) (fun x hx => by cases hx) W' ap (fun h => absurd rfl h) (fun h => absurd rfl h) (by unfold Row; trivial) hnn htb
      · exact list_any n₀ ks g o cap hok f3 hin2 (by omega) hih W' ap (fun _ => ea) (fun _ => hg) (Row.same (fun q hq => hb.block q hq) (fun _ h => h) hg hr) hnn htb
    have HN : Hid (∀ W', Below W1.heap.size W1 W' → Calls Tryd.prog 60 #[.int .i64 n] W' fun e w' => e = .returned (.string (st (Lib.itoa (Fd.w63 n)))) ∧ Hid (Below W'.heap.size W' w')) := Lib.hid fun W' h => Fd.text_any n W' (tab_later (tab_later ht hB1) h)
    have HIt : Hid ((Lib.itoa (Fd.w63 n)).length ≤ 30) := Lib.hid (Fd.itoa_len _ (Fd.w63_lo n) (Fd.w63_hi n))
    have HLl : Hid ((listT (ks.map er)).length ≤ 20000 * T.cnts (ks.map er) + 20 ∧ T.cnts (ks.map er) ≤ 100000) := Lib.hid ⟨list_len _ (by rw [List.length_map]; exact f3) (fun y hy => by
      obtain ⟨x, hx, rfl⟩ := List.mem_map.1 hy
      exact text_len _ (hin2 x hx)), by omega⟩
    have HF := Lib.hid (show (k = 1 → t.size = 8) ∧ (k = 2 → t.size ≤ 4096) from ⟨f1, f2⟩)
    obtain ⟨B, hBB⟩ : ∃ B, W.heap.size = B := ⟨_, rfl⟩
    have HBB := Lib.hid (fun _ : True => hBB)
    obtain ⟨m, hm⟩ : ∃ m, ks.length = m := ⟨_, rfl⟩
    rw [hBB] at HBx b0 b1 b2 b3
    rw [hm] at HBx HLs b3 hW1 ⊢
    obtain ⟨Lt, hLt⟩ : ∃ l, listT (ks.map er) = l := ⟨_, rfl⟩
    rw [hLt] at HLs HLl ⊢
    obtain ⟨It, hIt⟩ : ∃ l, Lib.itoa (Fd.w63 n) = l := ⟨_, rfl⟩
    rw [hIt] at HN HIt ⊢
    clear hin hcn hc2 f1 f2 f3 hin2 hih ih hL hn ht hks hB1 hbox hok hLt hIt hm
    by_cases h0 : k = 0
    · subst h0
      rw [if_pos rfl]
      have HC := Lib.hid (HN.out W1 (Below.refl _ _))
      go_enter Tryd.func38, Tryd.ntmps38
      go_wp2_with fail
      refine HC.out.mono ?_
      rintro e w2 ⟨rfl, hb2⟩
      go_wp2_with fail
      go_ret
      exact ⟨rfl, Lib.hid (HB1.out.trans (hb2.out.mono HB1.out.size))⟩
    have n0 : (k == 0) = false := by simpa using h0
    rw [if_neg h0]
    by_cases h1 : k = 1
    · subst h1
      rw [if_pos rfl]
      have h8 := HF.out.1 rfl
      have HFl := Lib.hid (float_any t h8 W1)
      have HBt := Lib.hid (Fn.bits_any (beN t.data.toList) (beN_lt 8 t.data.toList (by simpa using h8)) W1)
      obtain ⟨x, hx⟩ : ∃ x, beN t.data.toList = x := ⟨_, rfl⟩
      have HH : Hid (st (hexU (beN t.data.toList)) = strOfNums (Fn.hexNums x)) := Lib.hid (by rw [hx, hex_st])
      rw [hx] at HFl HBt
      clear n0 h0 h8 hx
      go_enter Tryd.func38, Tryd.ntmps38
      go_wp2_with fail
      refine HFl.out.mono ?_
      rintro e w2 ⟨rfl, rfl⟩
      go_wp2_with fail
      refine HBt.out.mono ?_
      rintro e w2 ⟨rfl, hb2⟩
      have HB2 := Lib.hid (HB1.out.trans (hb2.mono HB1.out.size))
      clear hb2
      go_wp2_with fail
      go_ret
      exact ⟨by rw [HH.out]; rfl, HB2⟩
    have n1 : (k == 1) = false := by simpa using h1
    rw [if_neg h1]
    by_cases h2 : k = 2
    · subst h2
      rw [if_pos rfl]
      have HQ := Lib.hid (quote_any t (by have := HF.out.2 rfl; omega) W1)
      have HH : Hid (st (tU (quoteN (bytesOf t))) = Fw.sv (quoteN (bytesOf t))) := Lib.hid (sv_st _ (quote_lt _ (bytes_lt t))).symm
      clear n0 h0 n1 h1
      go_enter Tryd.func38, Tryd.ntmps38
      go_wp2_with fail
      refine HQ.out.mono ?_
      rintro e w2 ⟨rfl, hb2⟩
      have HB2 := Lib.hid (HB1.out.trans (hb2.out.mono HB1.out.size))
      clear hb2
      go_wp2_with fail
      go_ret
      exact ⟨by rw [HH.out]; rfl, HB2⟩
    have n2 : (k == 2) = false := by simpa using h2
    rw [if_neg h2]
    by_cases h3 : k = 3
    · subst h3
      rw [if_pos rfl]
      have ha1 := st_add [67] It (by have := HIt.out; simp; omega)
      obtain ⟨s1, hs1⟩ : ∃ s, st It = s := ⟨_, rfl⟩
      obtain ⟨s2, hs2⟩ : ∃ s, st (67 :: It) = s := ⟨_, rfl⟩
      rw [hs1, show [67] ++ It = 67 :: It from rfl, hs2] at ha1
      have HA1 := Lib.hid ha1
      rw [hs1] at HN
      clear n0 h0 n1 h1 n2 h2
      by_cases hm0 : m = 0
      · subst hm0
        rw [if_pos rfl, List.append_nil, hs2]
        have HC := Lib.hid (HN.out W1 (Below.refl _ _))
        clear hs1 hs2
        unfold st at ha1
        go_enter Tryd.func38, Tryd.ntmps38
        go_wp2_with fail
        refine HC.out.mono ?_
        rintro e w2 ⟨rfl, hb2⟩
        have HB2 := Lib.hid (HB1.out.trans (hb2.out.mono HB1.out.size))
        clear hb2
        go_wp2_with fail
        go_ret
        exact ⟨rfl, by first | exact HB2 | exact hBB ▸ HB2⟩
      · have hm0b : ((m : Int) == 0) = false := by simp; omega
        have ha2 := st_add (67 :: It) Lt (by have := HIt.out; have := HLl.out; rw [List.length_cons]; omega)
        obtain ⟨s3, hs3⟩ : ∃ s, st Lt = s := ⟨_, rfl⟩
        obtain ⟨s4, hs4⟩ : ∃ s, st ((67 :: It) ++ Lt) = s := ⟨_, rfl⟩
        rw [hs2, hs3, hs4] at ha2
        rw [hs3] at HLs
        rw [if_neg hm0, hs4]
        unfold st at HA1
        have HA2 := Lib.hid ha2
        clear hs1 hs2 hs3 hs4 hm0 ha1 ha2
        go_enter Tryd.func38, Tryd.ntmps38
        go_wp2_with fail
        let R : World → World → Prop := fun W W2 => Below W.heap.size W W2
        let V : Nat → Value → World → Prop := fun jX v W => match jX with | 0 => v = .pointer (some ⟨B, 1, none⟩) | 1 => v = .int .i64 n | 2 => v = .string s1 | 3 => v = .string s2 | 4 => v = .pointer (some ⟨B, 3, none⟩) | 5 => v = .slice ap m cap | 6 => v = .string s3 | 7 => v = .string s4 | 8 => v = .string s4 | _ => True
        refine wp_region_fill (by kernel_rfl) V (fun W => Below W1.heap.size W1 W) R (by kernel_rfl) (by kernel_rfl) ((Below.refl _ _).drew) (fun W W2 hr hi => hi.trans (hr.mono hi.size)) ?_ ?_ ?_
        · intro jX v W W2 hr h
          match jX, h with
          | 0, h => exact h
          | 1, h => exact h
          | 2, h => exact h
          | 3, h => exact h
          | 4, h => exact h
          | 5, h => exact h
          | 6, h => exact h
          | 7, h => exact h
          | 8, h => exact h
          | nX + 9, h => exact h
        · intro iX o ho a W hN hi h
          match iX, ho with
          | 0, ho =>
            obtain rfl := Option.some.inj (show some _ = some o from ho)
            have e1 : a.eval (.tmp 1) = .pointer (some ⟨B, 0, none⟩) := hN.eval 1 (by kernel_rfl)
            refine fill_value (v := .pointer (some ⟨B, 1, none⟩)) ho rfl (by rfl) (by clear h hN; have hcst : ∀ v, a.eval (.const v) = v := (fun _ => rfl); have hfun : ∀ f, a.eval (.func f) = .func (.func f) #[] #[] := (fun _ => rfl); generalize a.eval = ρ at *; go_simp) rfl (Below.refl _ _)
          | 1, ho =>
            obtain rfl := Option.some.inj (show some _ = some o from ho)
            have e31 : a.eval (.tmp 31) = .pointer (some ⟨B, 1, none⟩) := h ⟨0, .data⟩ (by simp) rfl
            obtain ⟨c0, c1, c2, c3⟩ := HBx.out W hi
            refine fill_value (v := .int .i64 n) ho rfl (by rfl) (by clear h hN; have hcst : ∀ v, a.eval (.const v) = v := (fun _ => rfl); have hfun : ∀ f, a.eval (.func f) = .func (.func f) #[] #[] := (fun _ => rfl); generalize a.eval = ρ at *; go_simp) rfl (Below.refl _ _)
          | 2, ho =>
            obtain rfl := Option.some.inj (show some _ = some o from ho)
            have e32 : a.eval (.tmp 32) = .int .i64 n := h ⟨1, .data⟩ (by simp) rfl
            refine fill_enter (f := 60) (args := #[.int .i64 n]) ho rfl (by rfl) (by clear h hN; have hcst : ∀ v, a.eval (.const v) = v := (fun _ => rfl); have hfun : ∀ f, a.eval (.func f) = .func (.func f) #[] #[] := (fun _ => rfl); generalize a.eval = ρ at *; go_simp) (HN.out W hi) ?_
            rintro e w2 ⟨rfl, hb3⟩
            exact ⟨_, rfl, rfl, hb3.out⟩
          | 3, ho =>
            obtain rfl := Option.some.inj (show some _ = some o from ho)
            have e33 : a.eval (.tmp 33) = .string s1 := h ⟨2, .data⟩ (by simp) rfl
            have ha := HA1.out W
            refine fill_value (v := .string s2) ho rfl (by rfl) (by clear h hN; have hcst : ∀ v, a.eval (.const v) = v := (fun _ => rfl); have hfun : ∀ f, a.eval (.func f) = .func (.func f) #[] #[] := (fun _ => rfl); generalize a.eval = ρ at *; go_simp) rfl (Below.refl _ _)
          | 4, ho =>
            obtain rfl := Option.some.inj (show some _ = some o from ho)
            have e1 : a.eval (.tmp 1) = .pointer (some ⟨B, 0, none⟩) := hN.eval 1 (by kernel_rfl)
            refine fill_value (v := .pointer (some ⟨B, 3, none⟩)) ho rfl (by rfl) (by clear h hN; have hcst : ∀ v, a.eval (.const v) = v := (fun _ => rfl); have hfun : ∀ f, a.eval (.func f) = .func (.func f) #[] #[] := (fun _ => rfl); generalize a.eval = ρ at *; go_simp) rfl (Below.refl _ _)
          | 5, ho =>
            obtain rfl := Option.some.inj (show some _ = some o from ho)
            have e35 : a.eval (.tmp 35) = .pointer (some ⟨B, 3, none⟩) := h ⟨4, .data⟩ (by simp) rfl
            obtain ⟨c0, c1, c2, c3⟩ := HBx.out W hi
            refine fill_value (v := .slice ap m cap) ho rfl (by rfl) (by clear h hN; have hcst : ∀ v, a.eval (.const v) = v := (fun _ => rfl); have hfun : ∀ f, a.eval (.func f) = .func (.func f) #[] #[] := (fun _ => rfl); generalize a.eval = ρ at *; go_simp) rfl (Below.refl _ _)
          | 6, ho =>
            obtain rfl := Option.some.inj (show some _ = some o from ho)
            have e36 : a.eval (.tmp 36) = .slice ap m cap := h ⟨5, .data⟩ (by simp) rfl
            refine fill_enter (f := 64) (args := #[.slice ap m cap]) ho rfl (by rfl) (by clear h hN; have hcst : ∀ v, a.eval (.const v) = v := (fun _ => rfl); have hfun : ∀ f, a.eval (.func f) = .func (.func f) #[] #[] := (fun _ => rfl); generalize a.eval = ρ at *; go_simp) (HLs.out W hi) ?_
            rintro e w2 ⟨rfl, hb3⟩
            exact ⟨_, rfl, rfl, hb3.out⟩
          | 7, ho =>
            obtain rfl := Option.some.inj (show some _ = some o from ho)
            have e34 : a.eval (.tmp 34) = .string s2 := h ⟨3, .data⟩ (by simp) rfl
            have e37 : a.eval (.tmp 37) = .string s3 := h ⟨6, .data⟩ (by simp) rfl
            have ha := HA2.out W
            refine fill_value (v := .string s4) ho rfl (by rfl) (by clear h hN; have hcst : ∀ v, a.eval (.const v) = v := (fun _ => rfl); have hfun : ∀ f, a.eval (.func f) = .func (.func f) #[] #[] := (fun _ => rfl); generalize a.eval = ρ at *; go_simp) rfl (Below.refl _ _)
          | 8, ho =>
            obtain rfl := Option.some.inj (show some _ = some o from ho)
            have e38 : a.eval (.tmp 38) = .string s4 := h ⟨7, .data⟩ (by simp) rfl
            refine fill_value (v := .string s4) ho rfl (by rfl) (by clear h hN; have hcst : ∀ v, a.eval (.const v) = v := (fun _ => rfl); have hfun : ∀ f, a.eval (.func f) = .func (.func f) #[] #[] := (fun _ => rfl); generalize a.eval = ρ at *; go_simp) rfl (Below.refl _ _)
          | nX + 9, ho => exact absurd ho (by simp)
        · intro vals W hi h
          have u0 : vals 0 = .pointer (some ⟨B, 1, none⟩) := h 0 (by decide)
          have u1 : vals 1 = .int .i64 n := h 1 (by decide)
          have u2 : vals 2 = .string s1 := h 2 (by decide)
          have u3 : vals 3 = .string s2 := h 3 (by decide)
          have u4 : vals 4 = .pointer (some ⟨B, 3, none⟩) := h 4 (by decide)
          have u5 : vals 5 = .slice ap m cap := h 5 (by decide)
          have u6 : vals 6 = .string s3 := h 6 (by decide)
          have u7 : vals 7 = .string s4 := h 7 (by decide)
          have u8 : vals 8 = .string s4 := h 8 (by decide)
          generalize hA : fill _ _ _ _ = A
          have hA2 : (Act.put (Act.put (Act.put (Act.put (Act.put (Act.put (Act.put (Act.put (Act.put (_ : Act) (some 31) (vals 0)) (some 32) (vals 1)) (some 33) (vals 2)) (some 34) (vals 3)) (some 35) (vals 4)) (some 36) (vals 5)) (some 37) (vals 6)) (some 38) (vals 7)) (some 2) (vals 8)) = A := hA
          clear hA h V R
          rw [u0, u1, u2, u3, u4, u5, u6, u7, u8] at hA2
          simp only [fill, Act.put, List.setIfInBounds_toArray, List.set_cons_succ, List.set_cons_zero] at hA2
          subst hA2
          clear u0 u1 u2 u3 u4 u5 u6 u7 u8
          obtain ⟨w5, hw5⟩ : ∃ V2, V2 = W := ⟨_, rfl⟩
          subst hw5
          have HB5 := Lib.hid hi
          clear hi
          go_wp2_with fail
          go_ret
          have HB6 := Lib.hid (HB1.out.trans (HB5.out.mono HB1.out.size))
          exact ⟨rfl, by first | exact HB6 | exact hBB ▸ HB6⟩
    have n3 : (k == 3) = false := by simpa using h3
    rw [if_neg h3]
    by_cases h4 : k = 4
    · subst h4
      rw [if_pos rfl]
      have HC := Lib.hid (HLs.out W1 (Below.refl _ _))
      clear n0 h0 n1 h1 n2 h2 n3 h3
      go_enter Tryd.func38, Tryd.ntmps38
      go_wp2_with fail
      refine HC.out.mono ?_
      rintro e w2 ⟨rfl, hb2⟩
      have HB2 := Lib.hid (HB1.out.trans (hb2.out.mono HB1.out.size))
      clear hb2
      go_wp2_with fail
      go_ret
      exact ⟨rfl, HB2⟩
    have n4 : (k == 4) = false := by simpa using h4
    rw [if_neg h4]
    by_cases h5 : k = 5
    · subst h5
      rw [if_pos rfl]
      have ha1 := st_add [64] It (by have := HIt.out; simp; omega)
      obtain ⟨s1, hs1⟩ : ∃ s, st It = s := ⟨_, rfl⟩
      obtain ⟨s2, hs2⟩ : ∃ s, st (64 :: It) = s := ⟨_, rfl⟩
      rw [hs1, show [64] ++ It = 64 :: It from rfl, hs2] at ha1
      rw [hs1] at HN
      have HC := Lib.hid (HN.out W1 (Below.refl _ _))
      have HE : Hid (st (64 :: It) = s2) := Lib.hid hs2
      clear n0 h0 n1 h1 n2 h2 n3 h3 n4 h4 hs1 hs2
      unfold st at ha1
      go_enter Tryd.func38, Tryd.ntmps38
      go_wp2_with fail
      refine HC.out.mono ?_
      rintro e w2 ⟨rfl, hb2⟩
      have HB2 := Lib.hid (HB1.out.trans (hb2.out.mono HB1.out.size))
      clear hb2
      go_wp2_with fail
      go_ret
      exact ⟨by rw [HE.out]; rfl, HB2⟩
    have n5 : (k == 5) = false := by simpa using h5
    rw [if_neg h5]
    clear h0 h1 h2 h3 h4 h5
    go_enter Tryd.func38, Tryd.ntmps38
    go_wp2_with fail
    go_ret
    exact ⟨rfl, HB1⟩
end Go.Proofs.YtpacjcgpeomnaaaDoor
