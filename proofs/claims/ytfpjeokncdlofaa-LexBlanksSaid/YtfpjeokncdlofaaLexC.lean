/- The scanner of package lex: blanks; a word. -/
import Derived.Test.YtfpjeokncdlofaaLexB
namespace Go.Proofs.Ytfpjeokncdlofaa
open Go.ChangeShapes Go.WideShapes Go.ChangeAt Go.RowKit
open Go.Proofs.Ytfpjeokncdlofaa.Fn (st st_size st_list st_extract)
set_option linter.unusedVariables false
set_option maxRecDepth 20000

theorem beq_num (c d : UInt8) : (c == d) = (c.toNat == d.toNat) := by
  by_cases h : c = d
  · subst h; simp
  · have h2 : ¬ c.toNat = d.toNat := fun e => h (UInt8.toNat_inj.1 e)
    rw [beq_eq_false_iff_ne.2 h, beq_eq_false_iff_ne.2 h2]
theorem blank_num (c : UInt8) : blankB c = (c.toNat == 32 || c.toNat == 9 || c.toNat == 10) := by
  unfold blankB
  rw [beq_num, beq_num, beq_num]
  rfl
theorem isBlank_any (c : UInt8) (w : World) : Calls Try.prog 32 #[.int .u8 ((c.toNat : Nat) : Int)] w fun e w' => e = .returned (.bool (blankB c)) ∧ w = w' := by
  rw [blank_num]
  generalize c.toNat = x
  by_cases h1 : x = 32
  · subst h1
    go_enter Try.func32, Try.ntmps32
    go_wp2_with fail
    go_ret
    exact ⟨rfl, rfl⟩
  · by_cases h2 : x = 9
    · subst h2
      go_enter Try.func32, Try.ntmps32
      go_wp2_with fail
      go_ret
      exact ⟨rfl, rfl⟩
    · by_cases h3 : x = 10
      · subst h3
        go_enter Try.func32, Try.ntmps32
        go_wp2_with fail
        go_ret
        exact ⟨rfl, rfl⟩
      · have e : (x == 32 || x == 9 || x == 10) = false := by simp [h1, h2, h3]
        rw [e]
        have k1 : ((x : Int) == 32) = false := by simp; omega
        have k2 : ((x : Int) == 9) = false := by simp; omega
        have k3 : ((x : Int) == 10) = false := by simp; omega
        go_enter Try.func32, Try.ntmps32
        go_wp2_with fail
        go_ret
        exact ⟨rfl, rfl⟩
set_option maxHeartbeats 2000000 in
theorem skipBlanks_any (g : Nat) (l : List UInt8) (p : Nat × Nat) (hf : Fit l p) (w : World) (h : Hid (Sc w g l p.1 p.2)) :
    Calls Try.prog 28 #[.pointer (some ⟨g, 0, none⟩)] w fun e w' => e = .returned (.tuple #[]) ∧ Hid (Sc w' g (skipB false l p).1 (skipB false l p).2.1 (skipB false l p).2.2) ∧ Hid (Only (· = g) w w') := by
  obtain ⟨R, hR⟩ : ∃ R, skipB false l p = R := ⟨_, rfl⟩
  rw [hR]
  have H0 : Hid (skipB false l p = R ∧ Fit l p ∧ Sc w g l p.1 p.2) := Lib.hid ⟨hR, hf, h.out⟩
  clear hR hf h
  go_enter Try.func28, Try.ntmps28
  go_wp2_with fail
  go_loopg [] (l.length) (fun k wr => ∃ (m : List UInt8) (q : Nat × Nat), Hid (m.length = k) ∧ Hid (skipB false m q = R ∧ Fit m q ∧ Sc wr g m q.1 q.2) ∧ Hid (Only (· = g) w wr))
  case atStart => exact ⟨l, p, Lib.hid rfl, H0, Lib.hid (Only.refl _ _)⟩
  case round =>
    obtain ⟨m, q, HK, HS, HO⟩ := hrel
    obtain ⟨wo, rfl⟩ : ∃ wo : World, wo = wr := ⟨_, rfl⟩
    have HE := Lib.hid (ended_any g m q.1 q.2 wo (Lib.hid HS.out.2.2))
    cases m with
    | nil =>
      have HR : Hid (([], q) = R) := Lib.hid HS.out.1
      go_wp2_with fail
      refine HE.out.mono ?_
      rintro e w2 ⟨rfl, rfl⟩
      go_wp2_with fail
      first | go_end0 | refine bodyPost_ret (results_none rfl _ _ _) rfl ?_
      rw [← HR.out]
      exact ⟨rfl, Lib.hid HS.out.2.2, HO⟩
    | cons c t =>
      have hd : decide (c :: t = ([] : List UInt8)) = false := rfl
      rw [hd] at HE
      obtain ⟨c0, c1, c2⟩ := sc_cells HS.out.2.2
      have hix := idx0 c t
      have HN := Lib.hid (fun W h => next_any g c t q.1 q.2 HS.out.2.1.lt.1 HS.out.2.1.lt.2 W h)
      have HBl := Lib.hid (fun W => isBlank_any c W)
      have HLi := Lib.hid (skipLine_any g (c :: t) q HS.out.2.1 wo (Lib.hid HS.out.2.2))
      obtain ⟨s0, hs0⟩ : ∃ s, st (c :: t) = s := ⟨_, rfl⟩
      rw [hs0] at hix c0
      obtain ⟨x, hx⟩ : ∃ x, c.toNat = x := ⟨_, rfl⟩
      rw [hx] at hix HN HBl
      clear hs0
      cases hb : blankB c with
      | true =>
        have HR : Hid (skipB false t (adv c q) = R) := Lib.hid (by rw [← HS.out.1, skipB, if_pos hb])
        rw [hb] at HBl
        clear hb hx HLi
        go_wp2_with fail
        refine HE.out.mono ?_
        rintro e w2 ⟨rfl, rfl⟩
        go_wp2_with fail
        refine (HBl.out wo).mono ?_
        rintro e w2 ⟨rfl, rfl⟩
        go_wp2_with fail
        refine (HN.out wo (Lib.hid HS.out.2.2)).mono ?_
        rintro e w3 ⟨rfl, hs3, ho3⟩
        have HS3 : Hid (skipB false t (adv c q) = R ∧ Fit t (adv c q) ∧ Sc w3 g t (adv c q).1 (adv c q).2) := Lib.hid ⟨HR.out, HS.out.2.1.tail, hs3.out⟩
        have HO3 : Hid (Only (· = g) w w3) := Lib.hid (HO.out.trans ho3.out)
        have HK3 : Hid (t.length + 1 = gk) := Lib.hid (by have := HK.out; simpa using this)
        clear HN HE HR HS HO hs3 ho3 HK c0 c1 c2 HBl
        go_wp2_with fail
        go_roundg (t.length)
        case measure => have := HK3.out; omega
        case rel => exact ⟨t, adv c q, Lib.hid rfl, HS3, HO3⟩
      | false =>
        rw [hb] at HBl
        by_cases h59 : c = 59
        · have hx59 : x = 59 := by rw [← hx, h59]; rfl
          have h10 : ¬ c = 10 := by rw [h59]; decide
          have e1 : skipL (c :: t) q = skipL t (adv c q) := by rw [skipL, if_neg h10]
          have HR : Hid (skipB false (skipL (c :: t) q).1 (skipL (c :: t) q).2 = R) := Lib.hid (by
            rw [← HS.out.1, skipB, hb, if_neg (by decide), if_pos h59, skipB_line, e1])
          have HLen : Hid ((skipL (c :: t) q).1.length ≤ t.length) := Lib.hid (by rw [e1]; exact (skipL_fit t (adv c q) HS.out.2.1.tail).2)
          have HFt : Hid (Fit (skipL (c :: t) q).1 (skipL (c :: t) q).2) := Lib.hid (skipL_fit (c :: t) q HS.out.2.1).1
          generalize skipL (c :: t) q = R2 at *
          subst hx59
          clear hb hx h59 h10 e1 HN
          go_wp2_with fail
          refine HE.out.mono ?_
          rintro e w2 ⟨rfl, rfl⟩
          go_wp2_with fail
          refine (HBl.out wo).mono ?_
          rintro e w2 ⟨rfl, rfl⟩
          go_wp2_with fail
          refine HLi.out.mono ?_
          rintro e w3 ⟨rfl, hs3, ho3⟩
          have HS3 : Hid (skipB false R2.1 R2.2 = R ∧ Fit R2.1 R2.2 ∧ Sc w3 g R2.1 R2.2.1 R2.2.2) := Lib.hid ⟨HR.out, HFt.out, hs3.out⟩
          have HO3 : Hid (Only (· = g) w w3) := Lib.hid (HO.out.trans ho3.out)
          have HK3 : Hid (R2.1.length < gk) := Lib.hid (by have := HK.out; have h2 := HLen.out; rw [List.length_cons] at this; omega)
          clear HE HR HS HO hs3 ho3 HK c0 c1 c2 HBl HLi HLen HFt
          go_wp2_with fail
          go_roundg (R2.1.length)
          case measure => exact HK3.out
          case rel => exact ⟨R2.1, R2.2, Lib.hid rfl, HS3, HO3⟩
        · have hx59 : ((x : Int) == 59) = false := by
            have h3 : ¬ x = 59 := fun e => h59 (UInt8.toNat_inj.1 (by rw [hx, e]; rfl))
            simp; omega
          have hx59b : ¬ ((x : Int) = 59) := by simpa using hx59
          have HR : Hid ((c :: t, q) = R) := Lib.hid (by rw [← HS.out.1, skipB, hb, if_neg (by decide), if_neg h59])
          clear hb hx h59 HN HLi
          go_wp2_with fail
          refine HE.out.mono ?_
          rintro e w2 ⟨rfl, rfl⟩
          go_wp2_with fail
          refine (HBl.out wo).mono ?_
          rintro e w2 ⟨rfl, rfl⟩
          go_wp2_with fail
          first | go_end0 | refine bodyPost_ret (results_none rfl _ _ _) rfl ?_
          rw [← HR.out]
          exact ⟨rfl, Lib.hid HS.out.2.2, HO⟩
/-- a byte of a word -/
def ofW (c : UInt8) : Bool := !(blankB c) && !(c == 40) && !(c == 41) && !(c == 34) && !(c == 59)
theorem isOfWord_any (c : UInt8) (w : World) : Calls Try.prog 46 #[.int .u8 ((c.toNat : Nat) : Int)] w fun e w' => e = .returned (.bool (ofW c)) ∧ w = w' := by
  have HBl := Lib.hid (isBlank_any c w)
  unfold ofW
  rw [beq_num c 40, beq_num c 41, beq_num c 34, beq_num c 59]
  change Calls _ _ _ _ fun e w' => e = .returned (.bool (!(blankB c) && !(c.toNat == 40) && !(c.toNat == 41) && !(c.toNat == 34) && !(c.toNat == 59))) ∧ w = w'
  generalize hx : c.toNat = x at *
  clear hx
  cases hb : blankB c with
  | true =>
    rw [hb] at HBl
    clear hb
    go_enter Try.func46, Try.ntmps46
    go_wp2_with fail
    refine HBl.out.mono ?_
    rintro e w2 ⟨rfl, rfl⟩
    go_wp2_with fail
    go_ret
    exact ⟨rfl, rfl⟩
  | false =>
    rw [hb] at HBl
    clear hb
    have key : ∀ n : Nat, ¬ x = n → ((x : Int) != (n : Int)) = true := fun n h => by
      have h2 : ¬ (x : Int) = (n : Int) := by omega
      simp [h2]
    by_cases h1 : x = 40
    · subst h1
      go_enter Try.func46, Try.ntmps46
      go_wp2_with fail
      refine HBl.out.mono ?_
      rintro e w2 ⟨rfl, rfl⟩
      go_wp2_with fail
      go_ret
      exact ⟨rfl, rfl⟩
    · by_cases h2 : x = 41
      · subst h2
        go_enter Try.func46, Try.ntmps46
        go_wp2_with fail
        refine HBl.out.mono ?_
        rintro e w2 ⟨rfl, rfl⟩
        go_wp2_with fail
        go_ret
        exact ⟨rfl, rfl⟩
      · by_cases h3 : x = 34
        · subst h3
          go_enter Try.func46, Try.ntmps46
          go_wp2_with fail
          refine HBl.out.mono ?_
          rintro e w2 ⟨rfl, rfl⟩
          go_wp2_with fail
          go_ret
          exact ⟨rfl, rfl⟩
        · by_cases h4 : x = 59
          · subst h4
            go_enter Try.func46, Try.ntmps46
            go_wp2_with fail
            refine HBl.out.mono ?_
            rintro e w2 ⟨rfl, rfl⟩
            go_wp2_with fail
            go_ret
            exact ⟨rfl, rfl⟩
          · have e : (!false && !(x == 40) && !(x == 41) && !(x == 34) && !(x == 59)) = true := by simp [h1, h2, h3, h4]
            rw [e]
            have k1 : ((x : Int) != 40) = true := key 40 h1
            have k2 : ((x : Int) != 41) = true := key 41 h2
            have k3 : ((x : Int) != 34) = true := key 34 h3
            have k4 : ((x : Int) != 59) = true := key 59 h4
            clear key
            go_enter Try.func46, Try.ntmps46
            go_wp2_with fail
            refine HBl.out.mono ?_
            rintro e w2 ⟨rfl, rfl⟩
            go_wp2_with fail
            go_ret
            exact ⟨rfl, rfl⟩
theorem clone_any (s : ByteArray) (hs : s.size ≤ 1000000) (w : World) : Calls Try.prog 47 #[.string s] w fun e w' => e = .returned (.string s) ∧ Below w.heap.size w w' := by
  have H := Lib.hid (Try.stringslite_Clone s w (by omega))
  clear hs
  go_enter Try.func47, Try.ntmps47
  go_wp2_with fail
  refine H.out.mono ?_
  rintro e w2 ⟨rfl, hb⟩
  have HB := Lib.hid hb
  clear hb
  go_wp2_with fail
  go_ret
  exact ⟨rfl, HB.out⟩
end Go.Proofs.Ytfpjeokncdlofaa
