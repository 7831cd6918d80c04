/- The scanner of package lex: a string. -/
import Derived.Test.YtfpjeokncdlofaaLexG
namespace Go.Proofs.Ytfpjeokncdlofaa
open Go.ChangeShapes Go.WideShapes Go.ChangeAt Go.RowKit
open Go.Proofs.Ytfpjeokncdlofaa.Fn (st st_size st_list st_extract)
set_option linter.unusedVariables false
set_option maxRecDepth 20000

theorem strS_fit (first : Nat × Nat) : ∀ (n : Nat) (m : List UInt8) (p : Nat × Nat) (acc : List UInt8) (b l : List UInt8) (q : Nat × Nat), strS first n m p acc = .ok (b, l, q) → Fit m p → Fit l q ∧ l.length < m.length ∧ b.length ≤ 4096
  | 0, m, p, acc, b, l, q, h, hf => by rw [strS] at h; cases h
  | n + 1, [], p, acc, b, l, q, h, hf => by rw [strS] at h; cases h
  | n + 1, c :: t, p, acc, b, l, q, h, hf => by
    rw [strS] at h
    split at h
    · split at h
      · cases h
      · cases h
        exact ⟨hf.tail, by simp, by omega⟩
    · split at h
      · split at h
        · rename_i v l2 q2 he
          obtain ⟨h1, h2, _⟩ := escS_fit he hf.tail
          obtain ⟨k1, k2, k3⟩ := strS_fit first n _ _ _ _ _ _ h h1
          exact ⟨k1, by rw [List.length_cons]; omega, k3⟩
        · cases h
      · split at h
        · cases h
        · obtain ⟨k1, k2, k3⟩ := strS_fit first n _ _ _ _ _ _ h hf.tail
          exact ⟨k1, by rw [List.length_cons]; omega, k3⟩
set_option maxHeartbeats 8000000 in
theorem text_any (g : Nat) (t : List UInt8) (p : Nat × Nat) (hf : Fit (34 :: t) p) (w : World) (h : Hid (Sc w g (34 :: t) p.1 p.2)) :
    Calls Try.prog 35 #[.pointer (some ⟨g, 0, none⟩)] w fun e w' => ((∃ b l q, strS p t.length t (adv 34 p) [] = .ok (b, l, q) ∧ e = .returned (.string (st b)) ∧ Hid (Sc w' g l q.1 q.2)) ∨ (∃ r, strS p t.length t (adv 34 p) [] = .error r ∧ e = thrown r.1 r.2 10)) ∧ Hid (Only (· = g) w w') := by
  obtain ⟨c0, c1, c2⟩ := sc_cells h.out
  have HN := Lib.hid (fun W hs => next_any g 34 t p.1 p.2 hf.lt.1 hf.lt.2 W hs)
  have HSc : Hid (∀ W, Below w.heap.size w W → Sc W g (34 :: t) p.1 p.2) := Lib.hid fun W hW => sc_later h.out hW
  have HG : Hid (g < w.heap.size) := Lib.hid (sc_lt h.out)
  have HNt := Lib.hid (fun a b W => noToken_any a b W)
  obtain ⟨R, hR⟩ : ∃ R, strS p t.length t (adv 34 p) [] = R := ⟨_, rfl⟩
  have H0 : Hid (strS p t.length t (adv 34 p) [] = R ∧ Fit t (adv 34 p)) := Lib.hid ⟨hR, hf.tail⟩
  rw [hR]
  have HL0 : Hid (t.length ≤ 199999) := Lib.hid (by have := hf.2.2; rw [List.length_cons] at this; omega)
  clear h hf c0 hR
  go_enter Try.func35, Try.ntmps35
  go_wp2_with fail
  generalize h1 : World.alloc w _ = w1
  have HO1 := Lib.hid (only_alloc (g := g) h1)
  have HS1 := Lib.hid (HSc.out w1 (by rw [← h1]; exact (Below.refl _ _).alloc (Nat.le_refl _) _))
  have HP1 : Hid (w.heap.size ≠ g ∧ w.heap.size < w1.heap.size ∧ w1.cell? ⟨w.heap.size, 0, none⟩ = some (.int .i64 (p.1 : Int)) ∧ w1.cell? ⟨w.heap.size, 1, none⟩ = some (.int .i64 (p.2 : Int))) := Lib.hid (by
    have hg := HG.out
    refine ⟨by omega, by rw [← h1]; simp, ?_, ?_⟩
    · exact (pos_block h1).1
    · exact (pos_block h1).2)
  have HGB : Hid (∀ q, w1.heap.size ≤ q → ¬ q = g) := Lib.hid fun q hq e => by have h2 := HG.out; have h3 := HP1.out.2.1; omega
  clear h1 c1 c2
  refine (HN.out w1 HS1).mono ?_
  rintro e w2 ⟨rfl, hs2, ho2⟩
  clear HN HSc HS1
  have HF1 : Hid (∀ W, Only (· = g) w1 W → W.cell? ⟨w.heap.size, 0, none⟩ = some (.int .i64 (p.1 : Int)) ∧ W.cell? ⟨w.heap.size, 1, none⟩ = some (.int .i64 (p.2 : Int))) := Lib.hid fun W hW => by
    have hb := hW.block w.heap.size HP1.out.2.1 HP1.out.1
    exact ⟨(World.cell?_of_block (w := w1) hb).trans HP1.out.2.2.1, (World.cell?_of_block (w := w1) hb).trans HP1.out.2.2.2⟩
  go_wp2_with fail
  go_loopg [4] (t.length) (fun k sv wr => ∃ (m : List UInt8) (q : Nat × Nat) (acc : List UInt8) (v : Value), v = sv ∧ Hid (m.length ≤ k ∧ acc.length + m.length ≤ 199999) ∧ Hid (strS p k m q acc = R ∧ Fit m q) ∧ Hid (Sc wr g m q.1 q.2) ∧ Hid (wr.ownsRow w1.heap.size 5 1 v acc.length (cellsU acc)) ∧ Hid (Only (· = g) w1 wr))
  case atStart => exact ⟨t, adv 34 p, [], _, rfl, Lib.hid ⟨Nat.le_refl _, by have := HL0.out; simpa using this⟩, H0, hs2, Lib.hid (World.ownsRow_nil _ _ _ _), ho2⟩
  case round =>
    obtain ⟨m, q, acc, v, rfl, HK, HR, HS, HOw, HO⟩ := hrel
    obtain ⟨wo, rfl⟩ : ∃ wo : World, wo = wr := ⟨_, rfl⟩
    clear hs2 ho2 H0
    obtain ⟨va, vc, rfl⟩ := own_sl HOw.out
    have HE := Lib.hid (ended_any g m q.1 q.2 wo HS)
    cases m with
    | nil =>
      have HRe : Hid (R = .error p) := Lib.hid (by rw [← HR.out.1]; cases gk <;> rfl)
      have p0 := (HF1.out wo HO.out).1
      have p1 := (HF1.out wo HO.out).2
      clear HR HK
      go_wp2_with fail
      refine HE.out.mono ?_
      rintro e w3 ⟨rfl, rfl⟩
      go_wp2_with fail
      refine (HNt.out _ _ wo).mono ?_
      rintro e w9 ⟨rfl, hb9⟩
      have HO9 := Lib.hid ((HO1.out.trans HO.out).trans (Only.of_below hb9.out))
      go_wp2_with fail
      exact ⟨rfl, .inr ⟨p, HRe.out, rfl⟩, HO9⟩
    | cons c u =>
      obtain ⟨k, hk⟩ : ∃ k, gk = k + 1 := ⟨gk - 1, by have := HK.out.1; rw [List.length_cons] at this; omega⟩
      have HRs : Hid ((if c = 34 then (if 4096 < acc.length then Except.error p else .ok (acc, u, adv c q)) else if c = 92 ∧ u ≠ [] then match escS u (adv c q) with
          | some (v, l, r) => strS p k l r (acc ++ [UInt8.ofNat v])
          | none => .error (adv c q)
        else if c.toNat < 32 then .error q else strS p k u (adv c q) (acc ++ [c])) = R) := Lib.hid (by rw [← HR.out.1, hk, strS]; rfl)
      have HGk := Lib.hid (fun _ : True => hk)
      have HFt := Lib.hid HR.out.2
      have HKl : Hid (u.length ≤ k ∧ acc.length + 1 + u.length ≤ 199999) := Lib.hid (by have := HK.out; rw [List.length_cons] at this; omega)
      have hd : decide (c :: u = ([] : List UInt8)) = false := rfl
      rw [hd] at HE
      obtain ⟨c0, c1, c2⟩ := sc_cells HS.out
      have HNx := Lib.hid (fun W hs => next_any g c u q.1 q.2 HFt.out.lt.1 HFt.out.lt.2 W hs)
      obtain ⟨x, hx⟩ : ∃ x, c.toNat = x := ⟨_, rfl⟩
      have HX := Lib.hid (fun _ : True => hx)
      rw [hx] at HNx
      clear HR HK hk hx c0
      by_cases h34 : x = 34
      · have hc : c = 34 := UInt8.toNat_inj.1 (by rw [HX.out trivial, h34]; rfl)
        subst h34
        by_cases hlen : 4096 < acc.length
        · have hlenI : (4096 : Int) < (acc.length : Int) := by omega
          have HRe : Hid (R = .error p) := Lib.hid (by rw [← HRs.out, if_pos hc, if_pos hlen])
          clear hc hlen HRs
          go_wp2_with fail
          refine HE.out.mono ?_
          rintro e w3 ⟨rfl, rfl⟩
          go_wp2_with fail
          generalize h4 : World.alloc wo _ = w4
          have hb4 : Below wo.heap.size wo w4 := by rw [← h4]; exact (Below.refl _ _).alloc (Nat.le_refl _) _
          have HQ4 := Lib.hid (pos_block h4)
          have HL4 : Hid (wo.heap.size ≠ g ∧ wo.heap.size < w4.heap.size) := Lib.hid ⟨by have := sc_lt HS.out; omega, by rw [← h4]; simp⟩
          have HS4 := Lib.hid (sc_later HS.out hb4)
          have HOw4 := Lib.hid (own_keepS HOw.out (Only.of_below (S := (· = g)) hb4) (fun y hy => HGB.out y hy))
          have HO4 : Hid (Only (· = g) w1 w4) := Lib.hid (HO.out.trans (Only.of_below hb4))
          clear h4 hb4 c1 c2 HS HOw HO HE
          refine (HNx.out w4 HS4).mono ?_
          rintro e w5 ⟨rfl, hs5, ho5⟩
          have HOw5 := Lib.hid (own_keepS HOw4.out ho5.out (fun y hy => HGB.out y hy))
          have HO5 : Hid (Only (· = g) w1 w5) := Lib.hid (HO4.out.trans ho5.out)
          have HQ5 : Hid (w5.cell? ⟨wo.heap.size, 0, none⟩ = some (.int .i64 (q.1 : Int)) ∧ w5.cell? ⟨wo.heap.size, 1, none⟩ = some (.int .i64 (q.2 : Int))) := Lib.hid (by
            have hb := ho5.out.block wo.heap.size HL4.out.2 HL4.out.1
            exact ⟨(World.cell?_of_block (w := w4) hb).trans HQ4.out.1, (World.cell?_of_block (w := w4) hb).trans HQ4.out.2⟩)
          have HB5 : Hid (w1.heap.size ≤ w5.heap.size) := Lib.hid HO5.out.size
          clear HNx HS4 HOw4 HO4 ho5 HQ4 HL4
          have p0 := (HF1.out w5 HO5.out).1
          have p1 := (HF1.out w5 HO5.out).2
          go_wp2_with fail
          refine (HNt.out _ _ w5).mono ?_
          rintro e w9 ⟨rfl, hb9⟩
          have HO9 := Lib.hid ((HO1.out.trans HO5.out).trans (Only.of_below hb9.out))
          go_wp2_with fail
          exact ⟨rfl, .inr ⟨p, HRe.out, rfl⟩, HO9⟩
        · have hlenI : ¬ ((4096 : Int) < (acc.length : Int)) := by omega
          have HRe : Hid (R = .ok (acc, u, adv c q)) := Lib.hid (by rw [← HRs.out, if_pos hc, if_neg hlen])
          clear hc hlen HRs
          go_wp2_with fail
          refine HE.out.mono ?_
          rintro e w3 ⟨rfl, rfl⟩
          go_wp2_with fail
          generalize h4 : World.alloc wo _ = w4
          have hb4 : Below wo.heap.size wo w4 := by rw [← h4]; exact (Below.refl _ _).alloc (Nat.le_refl _) _
          have HQ4 := Lib.hid (pos_block h4)
          have HL4 : Hid (wo.heap.size ≠ g ∧ wo.heap.size < w4.heap.size) := Lib.hid ⟨by have := sc_lt HS.out; omega, by rw [← h4]; simp⟩
          have HS4 := Lib.hid (sc_later HS.out hb4)
          have HOw4 := Lib.hid (own_keepS HOw.out (Only.of_below (S := (· = g)) hb4) (fun y hy => HGB.out y hy))
          have HO4 : Hid (Only (· = g) w1 w4) := Lib.hid (HO.out.trans (Only.of_below hb4))
          clear h4 hb4 c1 c2 HS HOw HO HE
          refine (HNx.out w4 HS4).mono ?_
          rintro e w5 ⟨rfl, hs5, ho5⟩
          have HOw5 := Lib.hid (own_keepS HOw4.out ho5.out (fun y hy => HGB.out y hy))
          have HO5 : Hid (Only (· = g) w1 w5) := Lib.hid (HO4.out.trans ho5.out)
          have HQ5 : Hid (w5.cell? ⟨wo.heap.size, 0, none⟩ = some (.int .i64 (q.1 : Int)) ∧ w5.cell? ⟨wo.heap.size, 1, none⟩ = some (.int .i64 (q.2 : Int))) := Lib.hid (by
            have hb := ho5.out.block wo.heap.size HL4.out.2 HL4.out.1
            exact ⟨(World.cell?_of_block (w := w4) hb).trans HQ4.out.1, (World.cell?_of_block (w := w4) hb).trans HQ4.out.2⟩)
          have HB5 : Hid (w1.heap.size ≤ w5.heap.size) := Lib.hid HO5.out.size
          clear HNx HS4 HOw4 HO4 ho5 HQ4 HL4
          have hcv := own_conv HOw5.out
          have HO9 := Lib.hid (HO1.out.trans HO5.out)
          obtain ⟨ta, hta⟩ : ∃ s, st acc = s := ⟨_, rfl⟩
          rw [hta] at hcv
          have HTa := Lib.hid (fun _ : True => hta)
          clear hta
          go_wp2_with fail
          go_ret
          exact ⟨.inl ⟨acc, u, adv c q, HRe.out, by rw [HTa.out trivial]; rfl, hs5⟩, HO9⟩
      · have hc : ¬ c = 34 := fun e => h34 (by rw [← HX.out trivial, e]; rfl)
        have k34 : ((x : Int) == 34) = false := by simp; omega
        by_cases h92 : x = 92
        · have hc2 : c = 92 := UInt8.toNat_inj.1 (by rw [HX.out trivial, h92]; rfl)
          subst h92
          clear h34 k34
          cases u with
          | nil =>
            have HRk : Hid (strS p k [] (adv c q) (acc ++ [c]) = R) := Lib.hid (by
              rw [← HRs.out, if_neg hc, if_neg (by rintro ⟨_, h⟩; exact h rfl), if_neg (by rw [hc2]; decide)])
            clear hc hc2 HRs
            go_wp2_with fail
            refine HE.out.mono ?_
            rintro e w3 ⟨rfl, rfl⟩
            go_wp2_with fail
            generalize h4 : World.alloc wo _ = w4
            have hb4 : Below wo.heap.size wo w4 := by rw [← h4]; exact (Below.refl _ _).alloc (Nat.le_refl _) _
            have HQ4 := Lib.hid (pos_block h4)
            have HL4 : Hid (wo.heap.size ≠ g ∧ wo.heap.size < w4.heap.size) := Lib.hid ⟨by have := sc_lt HS.out; omega, by rw [← h4]; simp⟩
            have HS4 := Lib.hid (sc_later HS.out hb4)
            have HOw4 := Lib.hid (own_keepS HOw.out (Only.of_below (S := (· = g)) hb4) (fun y hy => HGB.out y hy))
            have HO4 : Hid (Only (· = g) w1 w4) := Lib.hid (HO.out.trans (Only.of_below hb4))
            clear h4 hb4 c1 c2 HS HOw HO HE
            refine (HNx.out w4 HS4).mono ?_
            rintro e w5 ⟨rfl, hs5, ho5⟩
            have HOw5 := Lib.hid (own_keepS HOw4.out ho5.out (fun y hy => HGB.out y hy))
            have HO5 : Hid (Only (· = g) w1 w5) := Lib.hid (HO4.out.trans ho5.out)
            have HQ5 : Hid (w5.cell? ⟨wo.heap.size, 0, none⟩ = some (.int .i64 (q.1 : Int)) ∧ w5.cell? ⟨wo.heap.size, 1, none⟩ = some (.int .i64 (q.2 : Int))) := Lib.hid (by
              have hb := ho5.out.block wo.heap.size HL4.out.2 HL4.out.1
              exact ⟨(World.cell?_of_block (w := w4) hb).trans HQ4.out.1, (World.cell?_of_block (w := w4) hb).trans HQ4.out.2⟩)
            have HB5 : Hid (w1.heap.size ≤ w5.heap.size) := Lib.hid HO5.out.size
            clear HNx HS4 HOw4 HO4 ho5 HQ4 HL4
            have HE5 := Lib.hid (ended_any g [] (adv c q).1 (adv c q).2 w5 hs5)
            go_wp2_with fail
            refine HE5.out.mono ?_
            rintro e w8 ⟨rfl, rfl⟩
            clear HE5
            obtain ⟨v', w6, hrun, hov, hbv⟩ := app_byte HOw5.out HB5.out c 92 (HX.out trivial) (by have := HKl.out; omega) 46
            have HOw6 := Lib.hid hov
            have HO6 : Hid (Only (· = g) w1 w6) := Lib.hid (only_below HO5.out hbv)
            have HS6 : Hid (Sc w6 g [] (adv c q).1 (adv c q).2) := Lib.hid (by
              have hg := HG.out
              have h3 := HP1.out.2.1
              have h9 := hs5.out
              unfold Sc at h9 ⊢
              rw [hbv.block g (by omega)]; exact h9)
            have HK6 : Hid (([] : List UInt8).length ≤ k ∧ (acc ++ [c]).length + ([] : List UInt8).length ≤ 199999) := Lib.hid (by rw [List.length_append]; have := HKl.out; simp only [List.length_cons, List.length_nil]; omega)
            have HF6 := Lib.hid HFt.out.tail
            clear hov hbv HOw5 HO5 HQ5 HFt HKl
            go_wp2_with (at_builtin; refine Lib.wpList_append_run _ rfl _ _ _ _ rfl _ _ rfl rfl _ _ hrun ?_)
            go_roundg k
            case measure => have := HGk.out trivial; omega
            case rel => exact ⟨[], adv c q, acc ++ [c], v', rfl, HK6, Lib.hid ⟨HRk.out, HF6.out⟩, HS6, HOw6, HO6⟩
          | cons d u2 =>
            have HEsc := Lib.hid (fun W hs => escaped_any g d u2 (adv c q) HFt.out.tail W hs)
            have HRm : Hid ((match escS (d :: u2) (adv c q) with
                | some (v, l, r) => strS p k l r (acc ++ [UInt8.ofNat v])
                | none => .error (adv c q)) = R) := Lib.hid (by rw [← HRs.out, if_neg hc, if_pos ⟨hc2, by simp⟩])
            clear hc hc2 HRs
            go_wp2_with fail
            refine HE.out.mono ?_
            rintro e w3 ⟨rfl, rfl⟩
            go_wp2_with fail
            generalize h4 : World.alloc wo _ = w4
            have hb4 : Below wo.heap.size wo w4 := by rw [← h4]; exact (Below.refl _ _).alloc (Nat.le_refl _) _
            have HQ4 := Lib.hid (pos_block h4)
            have HL4 : Hid (wo.heap.size ≠ g ∧ wo.heap.size < w4.heap.size) := Lib.hid ⟨by have := sc_lt HS.out; omega, by rw [← h4]; simp⟩
            have HS4 := Lib.hid (sc_later HS.out hb4)
            have HOw4 := Lib.hid (own_keepS HOw.out (Only.of_below (S := (· = g)) hb4) (fun y hy => HGB.out y hy))
            have HO4 : Hid (Only (· = g) w1 w4) := Lib.hid (HO.out.trans (Only.of_below hb4))
            clear h4 hb4 c1 c2 HS HOw HO HE
            refine (HNx.out w4 HS4).mono ?_
            rintro e w5 ⟨rfl, hs5, ho5⟩
            have HOw5 := Lib.hid (own_keepS HOw4.out ho5.out (fun y hy => HGB.out y hy))
            have HO5 : Hid (Only (· = g) w1 w5) := Lib.hid (HO4.out.trans ho5.out)
            have HQ5 : Hid (w5.cell? ⟨wo.heap.size, 0, none⟩ = some (.int .i64 (q.1 : Int)) ∧ w5.cell? ⟨wo.heap.size, 1, none⟩ = some (.int .i64 (q.2 : Int))) := Lib.hid (by
              have hb := ho5.out.block wo.heap.size HL4.out.2 HL4.out.1
              exact ⟨(World.cell?_of_block (w := w4) hb).trans HQ4.out.1, (World.cell?_of_block (w := w4) hb).trans HQ4.out.2⟩)
            have HB5 : Hid (w1.heap.size ≤ w5.heap.size) := Lib.hid HO5.out.size
            clear HNx HS4 HOw4 HO4 ho5 HQ4 HL4
            have HE5 := Lib.hid (ended_any g (d :: u2) (adv c q).1 (adv c q).2 w5 hs5)
            have hd5 : decide (d :: u2 = ([] : List UInt8)) = false := rfl
            rw [hd5] at HE5
            go_wp2_with fail
            refine HE5.out.mono ?_
            rintro e w8 ⟨rfl, rfl⟩
            clear HE5
            go_wp2_with fail
            refine (HEsc.out w5 hs5).mono ?_
            rintro e w7 ⟨hres, ho7⟩
            rcases hres with ⟨y, l, r, he, rfl, hs7⟩ | ⟨he, rfl⟩
            · obtain ⟨hfl, hll, hyl⟩ := escS_fit he HFt.out.tail
              have HRk : Hid (strS p k l r (acc ++ [UInt8.ofNat y]) = R) := Lib.hid (by rw [← HRm.out, he])
              have hyt : (UInt8.ofNat y).toNat = y := by rw [UInt8.toNat_ofNat']; omega
              have HOw7 := Lib.hid (own_keepS HOw5.out ho7.out (fun z hz => HGB.out z hz))
              have HO7 : Hid (Only (· = g) w1 w7) := Lib.hid (HO5.out.trans ho7.out)
              obtain ⟨v', w6, hrun, hov, hbv⟩ := app_byte HOw7.out HO7.out.size (UInt8.ofNat y) y hyt (by have := HKl.out; omega) 46
              have HOw6 := Lib.hid hov
              have HO6 : Hid (Only (· = g) w1 w6) := Lib.hid (only_below HO7.out hbv)
              have HS6 : Hid (Sc w6 g l r.1 r.2) := Lib.hid (by
                have hg := HG.out
                have h3 := HP1.out.2.1
                have h9 := hs7.out
                unfold Sc at h9 ⊢
                rw [hbv.block g (by omega)]; exact h9)
              have HK6 : Hid (l.length ≤ k ∧ (acc ++ [UInt8.ofNat y]).length + l.length ≤ 199999) := Lib.hid (by rw [List.length_append]; have := HKl.out; rw [List.length_cons] at this hll; simp only [List.length_cons, List.length_nil]; omega)
              have HF6 := Lib.hid hfl
              clear hov hbv HOw5 HO5 HQ5 HFt HKl HEsc HRm hs5 hs7 ho7 HOw7 HO7 hfl hll hyl hyt he
              go_wp2_with (at_builtin; refine Lib.wpList_append_run _ rfl _ _ _ _ rfl _ _ rfl rfl _ _ hrun ?_)
              go_roundg k
              case measure => have := HGk.out trivial; omega
              case rel => exact ⟨l, r, acc ++ [UInt8.ofNat y], v', rfl, HK6, Lib.hid ⟨HRk.out, HF6.out⟩, HS6, HOw6, HO6⟩
            · have HRe : Hid (R = .error (adv c q)) := Lib.hid (by rw [← HRm.out, he])
              have HO9 := Lib.hid ((HO1.out.trans HO5.out).trans ho7.out)
              exact ⟨rfl, .inr ⟨adv c q, HRe.out, rfl⟩, HO9⟩
        · have hc2 : ¬ c = 92 := fun e => h92 (by rw [← HX.out trivial, e]; rfl)
          have k92 : ((x : Int) == 92) = false := by simp; omega
          by_cases h32 : x < 32
          · have h32I : (x : Int) < 32 := by omega
            have HRe : Hid (R = .error q) := Lib.hid (by rw [← HRs.out, if_neg hc, if_neg (by rintro ⟨h, _⟩; exact hc2 h), if_pos (by rw [HX.out trivial]; exact h32)])
            clear hc hc2 HRs
            go_wp2_with fail
            refine HE.out.mono ?_
            rintro e w3 ⟨rfl, rfl⟩
            go_wp2_with fail
            generalize h4 : World.alloc wo _ = w4
            have hb4 : Below wo.heap.size wo w4 := by rw [← h4]; exact (Below.refl _ _).alloc (Nat.le_refl _) _
            have HQ4 := Lib.hid (pos_block h4)
            have HL4 : Hid (wo.heap.size ≠ g ∧ wo.heap.size < w4.heap.size) := Lib.hid ⟨by have := sc_lt HS.out; omega, by rw [← h4]; simp⟩
            have HS4 := Lib.hid (sc_later HS.out hb4)
            have HOw4 := Lib.hid (own_keepS HOw.out (Only.of_below (S := (· = g)) hb4) (fun y hy => HGB.out y hy))
            have HO4 : Hid (Only (· = g) w1 w4) := Lib.hid (HO.out.trans (Only.of_below hb4))
            clear h4 hb4 c1 c2 HS HOw HO HE
            refine (HNx.out w4 HS4).mono ?_
            rintro e w5 ⟨rfl, hs5, ho5⟩
            have HOw5 := Lib.hid (own_keepS HOw4.out ho5.out (fun y hy => HGB.out y hy))
            have HO5 : Hid (Only (· = g) w1 w5) := Lib.hid (HO4.out.trans ho5.out)
            have HQ5 : Hid (w5.cell? ⟨wo.heap.size, 0, none⟩ = some (.int .i64 (q.1 : Int)) ∧ w5.cell? ⟨wo.heap.size, 1, none⟩ = some (.int .i64 (q.2 : Int))) := Lib.hid (by
              have hb := ho5.out.block wo.heap.size HL4.out.2 HL4.out.1
              exact ⟨(World.cell?_of_block (w := w4) hb).trans HQ4.out.1, (World.cell?_of_block (w := w4) hb).trans HQ4.out.2⟩)
            have HB5 : Hid (w1.heap.size ≤ w5.heap.size) := Lib.hid HO5.out.size
            clear HNx HS4 HOw4 HO4 ho5 HQ4 HL4
            have p0 := HQ5.out.1
            have p1 := HQ5.out.2
            go_wp2_with fail
            refine (HNt.out _ _ w5).mono ?_
            rintro e w9 ⟨rfl, hb9⟩
            have HO9 := Lib.hid ((HO1.out.trans HO5.out).trans (Only.of_below hb9.out))
            go_wp2_with fail
            exact ⟨rfl, .inr ⟨q, HRe.out, rfl⟩, HO9⟩
          · have h32I : ¬ ((x : Int) < 32) := by omega
            have HRk : Hid (strS p k u (adv c q) (acc ++ [c]) = R) := Lib.hid (by rw [← HRs.out, if_neg hc, if_neg (by rintro ⟨h, _⟩; exact hc2 h), if_neg (by rw [HX.out trivial]; exact h32)])
            clear hc hc2 HRs
            go_wp2_with fail
            refine HE.out.mono ?_
            rintro e w3 ⟨rfl, rfl⟩
            go_wp2_with fail
            generalize h4 : World.alloc wo _ = w4
            have hb4 : Below wo.heap.size wo w4 := by rw [← h4]; exact (Below.refl _ _).alloc (Nat.le_refl _) _
            have HQ4 := Lib.hid (pos_block h4)
            have HL4 : Hid (wo.heap.size ≠ g ∧ wo.heap.size < w4.heap.size) := Lib.hid ⟨by have := sc_lt HS.out; omega, by rw [← h4]; simp⟩
            have HS4 := Lib.hid (sc_later HS.out hb4)
            have HOw4 := Lib.hid (own_keepS HOw.out (Only.of_below (S := (· = g)) hb4) (fun y hy => HGB.out y hy))
            have HO4 : Hid (Only (· = g) w1 w4) := Lib.hid (HO.out.trans (Only.of_below hb4))
            clear h4 hb4 c1 c2 HS HOw HO HE
            refine (HNx.out w4 HS4).mono ?_
            rintro e w5 ⟨rfl, hs5, ho5⟩
            have HOw5 := Lib.hid (own_keepS HOw4.out ho5.out (fun y hy => HGB.out y hy))
            have HO5 : Hid (Only (· = g) w1 w5) := Lib.hid (HO4.out.trans ho5.out)
            have HQ5 : Hid (w5.cell? ⟨wo.heap.size, 0, none⟩ = some (.int .i64 (q.1 : Int)) ∧ w5.cell? ⟨wo.heap.size, 1, none⟩ = some (.int .i64 (q.2 : Int))) := Lib.hid (by
              have hb := ho5.out.block wo.heap.size HL4.out.2 HL4.out.1
              exact ⟨(World.cell?_of_block (w := w4) hb).trans HQ4.out.1, (World.cell?_of_block (w := w4) hb).trans HQ4.out.2⟩)
            have HB5 : Hid (w1.heap.size ≤ w5.heap.size) := Lib.hid HO5.out.size
            clear HNx HS4 HOw4 HO4 ho5 HQ4 HL4
            obtain ⟨v', w6, hrun, hov, hbv⟩ := app_byte HOw5.out HB5.out c x (HX.out trivial) (by have := HKl.out; omega) 46
            have HOw6 := Lib.hid hov
            have HO6 : Hid (Only (· = g) w1 w6) := Lib.hid (only_below HO5.out hbv)
            have HS6 : Hid (Sc w6 g u (adv c q).1 (adv c q).2) := Lib.hid (by
              have hg := HG.out
              have h3 := HP1.out.2.1
              have h9 := hs5.out
              unfold Sc at h9 ⊢
              rw [hbv.block g (by omega)]; exact h9)
            have HK6 : Hid (u.length ≤ k ∧ (acc ++ [c]).length + u.length ≤ 199999) := Lib.hid (by rw [List.length_append]; have := HKl.out; simp only [List.length_cons, List.length_nil]; omega)
            have HF6 := Lib.hid HFt.out.tail
            clear hov hbv HOw5 HO5 HQ5 HFt HKl
            go_wp2_with (at_builtin; refine Lib.wpList_append_run _ rfl _ _ _ _ rfl _ _ rfl rfl _ _ hrun ?_)
            go_roundg k
            case measure => have := HGk.out trivial; omega
            case rel => exact ⟨u, adv c q, acc ++ [c], v', rfl, HK6, Lib.hid ⟨HRk.out, HF6.out⟩, HS6, HOw6, HO6⟩
end Go.Proofs.Ytfpjeokncdlofaa
