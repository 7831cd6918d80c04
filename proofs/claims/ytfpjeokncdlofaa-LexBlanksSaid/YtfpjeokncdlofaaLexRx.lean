/- The document's words of package lex: what a word is that is no number. -/
import Derived.Test.YtfpjeokncdlofaaLexRv
import Derived.Deep.QuietTactic
import Derived.Deep.CutRange
namespace Go.Proofs.Ytfpjeokncdlofaa
open Go.ChangeShapes Go.WideShapes Go.ChangeAt Go.RowKit Go.Joins
open Go.Proofs.Ytfpjeokncdlofaa.Fn (st st_size st_list st_extract)
open Go.Proofs.Ytfpjeokncdlofaa.Fd (out)
set_option linter.unusedVariables false
set_option maxRecDepth 20000

theorem quiet_w {P : Program} {f : FuncId} {args : Array Value} {w : World} {n : Nat} {v : Value}
    (h : Calls P f args (w.drewN n) fun e w' => e = .returned v ∧ w.drewN n = w') : Calls P f args (w.drewN n) fun e w'' => e = .returned v ∧ ∃ m, w'' = w.drewN m :=
  Calls.quiet_of_same (h.mono fun _ _ ⟨he, hw⟩ => ⟨he, hw.symm⟩)
set_option maxHeartbeats 40000000 in
theorem refWord_rest (c : UInt8) (t : List UInt8) (h1 : ¬ (out (c :: t)).2 = 0) (h2 : ¬ (fltL (c :: t)).2 = 0) (h3 : ¬ 40 < (c :: t).length) (w : World) :
    Calls Try.prog 14 #[.string (st (c :: t))] w fun e w' =>
      ((∃ k n b, wordS (c :: t) = some (k, n, b) ∧ e = .returned (.tuple #[tokV (0, 0) k n b, .bool true])) ∨ (wordS (c :: t) = none ∧ e = .returned (.tuple #[tokV (0, 0) 0 0 [], .bool false]))) ∧ Hid (Below w.heap.size w w') := by
  have hl : (c :: t).length ≤ 6000 := by omega
  have HRd : Hid (∀ W, Calls Try.prog 22 #[.string (st (c :: t))] W fun e w' => e = .returned (.tuple #[.int .i64 (out (c :: t)).1, .int .i64 (out (c :: t)).2]) ∧ W = w') := Lib.hid (fun W => Fd.refRead_any (c :: t) hl W)
  have HRf := Lib.hid (fun W => refF_any (c :: t) hl W)
  have HG := Lib.hid (fun x W => great_any x W)
  have HD := Lib.hid (fun x W => digit_any x W)
  have HSg := Lib.hid (fun x W => sign_any x W)
  have HW := Lib.hid (wordS_rest c t h1 h2 h3)
  have hix := idx0 c t
  have HIx : Hid (∀ (j : Nat) (h : j < (c :: t).length) (W : World), (Instr.index 9 (.string (st (c :: t))) (.int .i64 (j : Int))).run Try.prog W = .ok (.int .u8 ((atN (c :: t) j : Nat) : Int)) W) := Lib.hid fun j h W => by
    rw [idx_at (c :: t) j h W]
    unfold atN
    rw [List.getD_eq_getElem?_getD, List.getElem?_eq_getElem h]
    rfl
  have H0 : Hid (atN (c :: t) 0 = c.toNat) := Lib.hid rfl
  generalize hL : c :: t = L at *
  obtain ⟨s, hs'⟩ : ∃ s, st L = s := ⟨_, rfl⟩
  have hsz : s.size = L.length := by rw [← hs', st_size]
  have HSt := Lib.hid (fun _ : True => hs')
  rw [hs'] at HRd HRf hix HIx ⊢
  generalize out L = o at *
  generalize fltL L = f at *
  obtain ⟨o1, o2⟩ := o
  obtain ⟨f1, f2⟩ := f
  obtain ⟨n0, hn0⟩ : ∃ n, L.length = n := ⟨_, rfl⟩
  have HN0 : Hid (L.length = n0 ∧ 0 < n0 ∧ n0 ≤ 40) := Lib.hid ⟨hn0, by rw [← hn0, ← hL]; simp, by omega⟩
  rw [hn0] at hsz HW h3 HIx
  obtain ⟨x, hx⟩ : ∃ x, c.toNat = x := ⟨_, rfl⟩
  rw [hx] at hix H0
  have hb2 : (o2 == 0) = false := by simpa using h1
  have hb3 : (f2 == 0) = false := by simpa using h2
  have h4I : ¬ ((40 : Int) < (n0 : Int)) := by omega
  have hbz : ∀ W, (Instr.build 38 #[]).run Try.prog W = .ok (.agg #[.int .i64 0, .int .i64 0, .int .i64 0, .int .i64 0, .string ⟨#[]⟩]) W := fun _ => by kernel_rfl
  clear hL hs' hn0 hl h1 h2 h3 hx
  go_enter Try.func14, Try.ntmps14
  go_wp2_with fail
  refine (HRd.out _).mono ?_
  rintro e w2 ⟨rfl, rfl⟩
  go_wp2_with fail
  refine (HRf.out _).mono ?_
  rintro e w2 ⟨rfl, m, rfl⟩
  go_wp2_with fail
  generalize hWW : World.drewN _ m = w5
  have hb5 : Below w.heap.size w w5 ∧ KeptR w5 w.heap.size := by
    have hn := rtok_new w
    rw [← hWW]
    exact ⟨below_drewN hn.1 m, keptR (below_drewN hn.1 m) hn.2⟩
  have HB5 := Lib.hid hb5
  clear hWW hb5
  go_quiet (first
    | (go_at_call 25; exact quiet_w (HG.out _ _))
    | (go_at_call 26; exact quiet_w (HSg.out _ _)))
  go_wp2_with fail
  generalize hWW : World.drewN w5 _ = w6
  have hb6 : Below w.heap.size w w6 ∧ KeptR w6 w.heap.size := by
    rw [← hWW]
    exact ⟨below_drewN HB5.out.1 _, HB5.out.2⟩
  have HB6 := Lib.hid hb6
  clear hWW hb6 HB5
  go_loopg [8, 9, 10, 11] (n0) (fun gk s8 s9 s10 s11 wr => ∃ (k : Nat) (cb nb db : Bool), s8 = .bool cb ∧ s9 = .bool nb ∧ s10 = .bool db ∧ s11 = .int .i64 (k : Int) ∧ Hid (k + gk = n0) ∧ Hid (cb = conR L k ∧ nb = namR L k ∧ db = digR L k) ∧ wr = w6)
  case atStart =>
    refine ⟨0, _, _, _, rfl, rfl, rfl, rfl, Lib.hid (by omega), Lib.hid ⟨?_, ?_, ?_⟩, rfl⟩
    · unfold conR; rw [H0.out]; simp
    · unfold namR; rw [H0.out]; simp
    · rfl
  case round =>
    obtain ⟨k, cb, nb, db, rfl, rfl, rfl, rfl, HK, HI, hwr⟩ := hrel
    subst hwr
    by_cases hkn : k < n0
    · have hkI : (k : Int) < (n0 : Int) := by omega
      have hix2 := HIx.out k hkn
      have HA0 : Hid (conR L (k + 1) = (cb && alnN (atN L k)) ∧ namR L (k + 1) = (nb && namW (atN L k)) ∧ digR L (k + 1) = (db && (digN (atN L k) || (k == 0 && atN L k == 45 && decide (1 < n0))))) := Lib.hid (by
        rw [conR_step, namR_step, digR_step, HI.out.1, HI.out.2.1, HI.out.2.2]
        refine ⟨rfl, rfl, ?_⟩
        unfold digG
        rw [HN0.out.1])
      obtain ⟨y, hy⟩ : ∃ y, atN L k = y := ⟨_, rfl⟩
      rw [hy] at hix2 HA0
      have HGy := Lib.hid (fun W => HG.out y W)
      have HDy := Lib.hid (fun W => HD.out y W)
      have HSy := Lib.hid (fun W => HSg.out y W)
      clear HI hy HG HD HSg HRd HRf HIx hix
      go_upto_region 14 with fail
      go_cut [8] from 41 to 112 (fun s8 wx => s8 = .bool (cb && alnN y) ∧ wx = wr)
      case first =>
        clear HA0 HW
        cases cb
        · go_wp2_with fail
          all_goals (go_meet; exact ⟨rfl, rfl⟩)
        · by_cases hA : capN y = true
          · have hal : alnN y = true := by rw [alnN, letN, hA]; rfl
            rw [hA] at HGy
            clear hA
            go_wp2_with (first
                | (go_at_call 25; refine (HGy.out _).mono ?_; rintro e w9 ⟨rfl, rfl⟩)
                | (go_at_call 27; refine (HDy.out _).mono ?_; rintro e w9 ⟨rfl, rfl⟩)
                | (go_at_call 26; refine (HSy.out _).mono ?_; rintro e w9 ⟨rfl, rfl⟩))
            all_goals (go_meet; exact ⟨by rw [hal]; rfl, rfl⟩)
          · have hA' : capN y = false := by simpa using hA
            rw [hA'] at HGy
            by_cases hB : digN y = true
            · have hal : alnN y = true := by rw [alnN, hB, Bool.or_true]
              rw [hB] at HDy
              clear hA hA' hB
              go_wp2_with (first
                  | (go_at_call 25; refine (HGy.out _).mono ?_; rintro e w9 ⟨rfl, rfl⟩)
                  | (go_at_call 27; refine (HDy.out _).mono ?_; rintro e w9 ⟨rfl, rfl⟩)
                  | (go_at_call 26; refine (HSy.out _).mono ?_; rintro e w9 ⟨rfl, rfl⟩))
              all_goals (go_meet; exact ⟨by rw [hal]; rfl, rfl⟩)
            · have hB' : digN y = false := by simpa using hB
              rw [hB'] at HDy
              by_cases h97 : 97 ≤ y
              · have h97I : (97 : Int) ≤ (y : Int) := by omega
                by_cases h122 : y ≤ 122
                · have h122I : (y : Int) ≤ 122 := by omega
                  have hal : alnN y = true := by rw [alnN, letN, hA', hB', decide_eq_true h97, decide_eq_true h122]; rfl
                  clear hA hA' hB hB'
                  go_wp2_with (first
                      | (go_at_call 25; refine (HGy.out _).mono ?_; rintro e w9 ⟨rfl, rfl⟩)
                      | (go_at_call 27; refine (HDy.out _).mono ?_; rintro e w9 ⟨rfl, rfl⟩)
                      | (go_at_call 26; refine (HSy.out _).mono ?_; rintro e w9 ⟨rfl, rfl⟩))
                  all_goals (go_meet; exact ⟨by rw [hal]; rfl, rfl⟩)
                · have h122I : ¬ ((y : Int) ≤ 122) := by omega
                  have h122b : decide ((y : Int) ≤ 122) = false := decide_eq_false h122I
                  have hal : alnN y = false := by rw [alnN, letN, hA', hB', decide_eq_true h97, decide_eq_false h122]; rfl
                  clear hA hA' hB hB'
                  go_wp2_with (first
                      | (go_at_call 25; refine (HGy.out _).mono ?_; rintro e w9 ⟨rfl, rfl⟩)
                      | (go_at_call 27; refine (HDy.out _).mono ?_; rintro e w9 ⟨rfl, rfl⟩)
                      | (go_at_call 26; refine (HSy.out _).mono ?_; rintro e w9 ⟨rfl, rfl⟩))
                  all_goals (go_meet; exact ⟨by rw [hal]; rfl, rfl⟩)
              · have h97I : ¬ ((97 : Int) ≤ (y : Int)) := by omega
                have hal : alnN y = false := by rw [alnN, letN, hA', hB', decide_eq_false h97]; rfl
                clear hA hA' hB hB'
                go_wp2_with (first
                    | (go_at_call 25; refine (HGy.out _).mono ?_; rintro e w9 ⟨rfl, rfl⟩)
                    | (go_at_call 27; refine (HDy.out _).mono ?_; rintro e w9 ⟨rfl, rfl⟩)
                    | (go_at_call 26; refine (HSy.out _).mono ?_; rintro e w9 ⟨rfl, rfl⟩))
                all_goals (go_meet; exact ⟨by rw [hal]; rfl, rfl⟩)
      case rest =>
      obtain ⟨rfl, hwc⟩ := hcut
      rw [hwc]
      clear hwc wc
      go_upto_region 15 with fail
      go_cut [9] from 41 to 112 (fun s9 wx => s9 = .bool (nb && namW y) ∧ wx = wr)
      case first =>
        clear HA0 HW
        cases nb
        · go_wp2_with fail
          all_goals (go_meet; exact ⟨rfl, rfl⟩)
        · by_cases hA : capN y = true
          · have hal : namW y = true := by rw [namW, hA]; rfl
            rw [hA] at HGy
            clear hA
            go_wp2_with (first
                | (go_at_call 25; refine (HGy.out _).mono ?_; rintro e w9 ⟨rfl, rfl⟩)
                | (go_at_call 27; refine (HDy.out _).mono ?_; rintro e w9 ⟨rfl, rfl⟩)
                | (go_at_call 26; refine (HSy.out _).mono ?_; rintro e w9 ⟨rfl, rfl⟩))
            all_goals (go_meet; exact ⟨by rw [hal]; rfl, rfl⟩)
          · have hA' : capN y = false := by simpa using hA
            rw [hA'] at HGy
            by_cases hB : digN y = true
            · have hal : namW y = true := by rw [namW, hA', hB]; rfl
              rw [hB] at HDy
              clear hA hA' hB
              go_wp2_with (first
                  | (go_at_call 25; refine (HGy.out _).mono ?_; rintro e w9 ⟨rfl, rfl⟩)
                  | (go_at_call 27; refine (HDy.out _).mono ?_; rintro e w9 ⟨rfl, rfl⟩)
                  | (go_at_call 26; refine (HSy.out _).mono ?_; rintro e w9 ⟨rfl, rfl⟩))
              all_goals (go_meet; exact ⟨by rw [hal]; rfl, rfl⟩)
            · have hB' : digN y = false := by simpa using hB
              rw [hB'] at HDy
              have hal : namW y = sigN y := by rw [namW, hA', hB']; rfl
              cases hC : sigN y with
              | true =>
                rw [hC] at HSy hal
                clear hA hA' hB hB' hC
                go_wp2_with (first
                    | (go_at_call 25; refine (HGy.out _).mono ?_; rintro e w9 ⟨rfl, rfl⟩)
                    | (go_at_call 27; refine (HDy.out _).mono ?_; rintro e w9 ⟨rfl, rfl⟩)
                    | (go_at_call 26; refine (HSy.out _).mono ?_; rintro e w9 ⟨rfl, rfl⟩))
                all_goals (go_meet; exact ⟨by rw [hal]; rfl, rfl⟩)
              | false =>
                rw [hC] at HSy hal
                clear hA hA' hB hB' hC
                go_wp2_with (first
                    | (go_at_call 25; refine (HGy.out _).mono ?_; rintro e w9 ⟨rfl, rfl⟩)
                    | (go_at_call 27; refine (HDy.out _).mono ?_; rintro e w9 ⟨rfl, rfl⟩)
                    | (go_at_call 26; refine (HSy.out _).mono ?_; rintro e w9 ⟨rfl, rfl⟩))
                all_goals (go_meet; exact ⟨by rw [hal]; rfl, rfl⟩)
      case rest =>
      obtain ⟨rfl, hwc⟩ := hcut
      rw [hwc]
      clear hwc wc
      go_upto_region 16 with fail
      clear HW
      cases db
      · go_wp2_with fail
        all_goals
          go_roundg (n0 - (k + 1))
          case measure => have := HK.out; omega
          case rel => exact ⟨k + 1, _, _, _, rfl, rfl, rfl, by go_num, Lib.hid (by omega), Lib.hid ⟨HA0.out.1.symm, HA0.out.2.1.symm, by rw [HA0.out.2.2]; rfl⟩, rfl⟩
      · by_cases hB : digN y = true
        · rw [hB] at HDy HA0
          clear hB
          go_wp2_with (first
              | (go_at_call 25; refine (HGy.out _).mono ?_; rintro e w9 ⟨rfl, rfl⟩)
              | (go_at_call 27; refine (HDy.out _).mono ?_; rintro e w9 ⟨rfl, rfl⟩)
              | (go_at_call 26; refine (HSy.out _).mono ?_; rintro e w9 ⟨rfl, rfl⟩))
          all_goals
            go_roundg (n0 - (k + 1))
            case measure => have := HK.out; omega
            case rel => exact ⟨k + 1, _, _, _, rfl, rfl, rfl, by go_num, Lib.hid (by omega), Lib.hid ⟨HA0.out.1.symm, HA0.out.2.1.symm, by rw [HA0.out.2.2]; rfl⟩, rfl⟩
        · have hB' : digN y = false := by simpa using hB
          rw [hB'] at HDy HA0
          clear hB hB'
          by_cases hk0 : k = 0
          · have hk0b : ((k : Int) == 0) = true := by rw [hk0]; rfl
            have hk0c : (k == 0) = true := by rw [hk0]; rfl
            rw [hk0c] at HA0
            clear hk0
            by_cases h45 : y = 45
            · have h45b : ((y : Int) == 45) = true := by rw [h45]; rfl
              have h45c : (y == 45) = true := by rw [h45]; rfl
              rw [h45c] at HA0
              clear h45
              by_cases h1n : 1 < n0
              · have h1I : (1 : Int) < (n0 : Int) := by omega
                rw [decide_eq_true h1n] at HA0
                go_wp2_with (first
                    | (go_at_call 25; refine (HGy.out _).mono ?_; rintro e w9 ⟨rfl, rfl⟩)
                    | (go_at_call 27; refine (HDy.out _).mono ?_; rintro e w9 ⟨rfl, rfl⟩)
                    | (go_at_call 26; refine (HSy.out _).mono ?_; rintro e w9 ⟨rfl, rfl⟩))
                all_goals
                  go_roundg (n0 - (k + 1))
                  case measure => have := HK.out; omega
                  case rel => exact ⟨k + 1, _, _, _, rfl, rfl, rfl, by go_num, Lib.hid (by omega), Lib.hid ⟨HA0.out.1.symm, HA0.out.2.1.symm, by rw [HA0.out.2.2]; rfl⟩, rfl⟩
              · have h1I : ¬ ((1 : Int) < (n0 : Int)) := by omega
                have h1b : decide ((1 : Int) < (n0 : Int)) = false := decide_eq_false h1I
                rw [decide_eq_false h1n] at HA0
                go_wp2_with (first
                    | (go_at_call 25; refine (HGy.out _).mono ?_; rintro e w9 ⟨rfl, rfl⟩)
                    | (go_at_call 27; refine (HDy.out _).mono ?_; rintro e w9 ⟨rfl, rfl⟩)
                    | (go_at_call 26; refine (HSy.out _).mono ?_; rintro e w9 ⟨rfl, rfl⟩))
                all_goals
                  go_roundg (n0 - (k + 1))
                  case measure => have := HK.out; omega
                  case rel => exact ⟨k + 1, _, _, _, rfl, rfl, rfl, by go_num, Lib.hid (by omega), Lib.hid ⟨HA0.out.1.symm, HA0.out.2.1.symm, by rw [HA0.out.2.2]; rfl⟩, rfl⟩
            · have h45b : ((y : Int) == 45) = false := by rw [beq_eq_false_iff_ne]; omega
              have h45c : (y == 45) = false := by rw [beq_eq_false_iff_ne]; exact h45
              rw [h45c] at HA0
              go_wp2_with (first
                  | (go_at_call 25; refine (HGy.out _).mono ?_; rintro e w9 ⟨rfl, rfl⟩)
                  | (go_at_call 27; refine (HDy.out _).mono ?_; rintro e w9 ⟨rfl, rfl⟩)
                  | (go_at_call 26; refine (HSy.out _).mono ?_; rintro e w9 ⟨rfl, rfl⟩))
              all_goals
                go_roundg (n0 - (k + 1))
                case measure => have := HK.out; omega
                case rel => exact ⟨k + 1, _, _, _, rfl, rfl, rfl, by go_num, Lib.hid (by omega), Lib.hid ⟨HA0.out.1.symm, HA0.out.2.1.symm, by rw [HA0.out.2.2]; rfl⟩, rfl⟩
          · have hk0b : ((k : Int) == 0) = false := by rw [beq_eq_false_iff_ne]; omega
            have hk0c : (k == 0) = false := by rw [beq_eq_false_iff_ne]; exact hk0
            rw [hk0c] at HA0
            go_wp2_with (first
                | (go_at_call 25; refine (HGy.out _).mono ?_; rintro e w9 ⟨rfl, rfl⟩)
                | (go_at_call 27; refine (HDy.out _).mono ?_; rintro e w9 ⟨rfl, rfl⟩)
                | (go_at_call 26; refine (HSy.out _).mono ?_; rintro e w9 ⟨rfl, rfl⟩))
            all_goals
              go_roundg (n0 - (k + 1))
              case measure => have := HK.out; omega
              case rel => exact ⟨k + 1, _, _, _, rfl, rfl, rfl, by go_num, Lib.hid (by omega), Lib.hid ⟨HA0.out.1.symm, HA0.out.2.1.symm, by rw [HA0.out.2.2]; rfl⟩, rfl⟩
    · have hkn' : k = n0 := by have := HK.out; omega
      subst hkn'
      have HR := HW.out
      have hc := HI.out
      rw [← hc.1, ← hc.2.1, ← hc.2.2] at HR
      have HRR := Lib.hid HR
      obtain ⟨⟨k0, k1, k2, k3, k4⟩, k5, k6, k7, k8, k9⟩ := HB6.out.2
      clear HI HW HR hc HG HD HSg HRd HRf HIx hix
      cases db
      · cases cb
        · cases nb
          · go_wp2_with fail
            refine bodyPost_ret (v := .tuple #[tokV (0, 0) 0 0 [], .bool false]) ?_ rfl ⟨.inr ⟨HRR.out, rfl⟩, ?_⟩
            · simp [results, Try.results14]
              go_simp
              rfl
            · exact Lib.hid (below_res5 HB6.out.1 _ _ _ _ _)
          · go_wp2_with fail
            refine bodyPost_ret (v := .tuple #[tokV (0, 0) 5 0 L, .bool true]) ?_ rfl ⟨.inl ⟨5, 0, L, HRR.out, rfl⟩, ?_⟩
            · simp [results, Try.results14]
              go_simp
              unfold tokV
              rw [HSt.out trivial]
              rfl
            · exact Lib.hid (below_res5 HB6.out.1 _ _ _ _ _)
        · go_wp2_with fail
          refine bodyPost_ret (v := .tuple #[tokV (0, 0) 6 0 L, .bool true]) ?_ rfl ⟨.inl ⟨6, 0, L, HRR.out, rfl⟩, ?_⟩
          · simp [results, Try.results14]
            go_simp
            unfold tokV
            rw [HSt.out trivial]
            rfl
          · exact Lib.hid (below_res5 HB6.out.1 _ _ _ _ _)
      · go_wp2_with fail
        refine bodyPost_ret (v := .tuple #[tokV (0, 0) 0 0 [], .bool false]) ?_ rfl ⟨.inr ⟨HRR.out, rfl⟩, ?_⟩
        · simp [results, Try.results14]
          go_simp
          rfl
        · exact Lib.hid (below_res5 HB6.out.1 _ _ _ _ _)
end Go.Proofs.Ytfpjeokncdlofaa
