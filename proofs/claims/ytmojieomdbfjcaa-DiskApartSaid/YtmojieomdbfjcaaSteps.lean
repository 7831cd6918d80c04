/- DiskSteps: the walk. -/
import Derived.Test.YtmojieomdbfjcaaLasts
import Derived.Test.YtmojieomdbfjcaaBools
namespace Go.Proofs.Ytmojieomdbfjcaa
open Go.ChangeShapes Go.WideShapes Go.ChangeAt Go.RowKit

structure SInv (w wr : World) (g gn gl cn cl N m : Nat) (off : Bool) (k : Nat) : Prop where
  dk : ∃ vw ns ls W, DkAt w.heap.size wr g gn gl 4 cn cl vw ns ls W (m : Int) true ((N : Int) - (m : Int)) off ∧ (∀ x ∈ W, x.1 < 4) ∧ AllStr ns ∧ AllStr ls ∧ W.length ≤ k
  le : m ≤ N
  offd : off = true → m = N
  below : Below w.heap.size w wr
theorem snoc_lt {W : List (Nat × ByteArray)} (h : ∀ x ∈ W, x.1 < 4) (n : Nat) (hn : n < 4) (s : ByteArray) : ∀ x ∈ W ++ [(n, s)], x.1 < 4 := by
  intro x hx
  rcases List.mem_append.1 hx with h' | h'
  · exact h x h'
  · rw [List.mem_singleton] at h'; rw [h']; exact hn
/-- a text at the front -/
theorem now_zero {B : Nat} {w : World} {g gn gl cn cl : Nat} {vw : Value} {ns ls : List Value} {W : List (Nat × ByteArray)} {st : Int} {ar : Bool} {le : Int} {off : Bool} (h : DkAt B w g gn gl 4 cn cl vw ns ls W st ar le off) (hs : AllStr ns) : ∃ s, w.cell? ⟨gn, 0, none⟩ = some (.string s) := by
  have hl : 0 < ns.length := by have := h.now.1; omega
  obtain ⟨s, e⟩ := hs _ (List.getElem_mem hl)
  exact ⟨s, by rw [World.ownsRow.cellAt h.now 0 (by decide), List.getElem?_eq_getElem hl, e]⟩
set_option maxRecDepth 20000 in
theorem diskSteps_mid (a0 : Int) (sp : Option Addr) (L cap : Nat) (bs : Nat → Bool) (w : World) (hL : L ≤ 9223372036854775807)
    (hsrc : Hid (∀ V, Below w.heap.size w V → ∀ i, i < L → ∃ g' o, sp = some ⟨g', o, none⟩ ∧ V.cell? ⟨g', o + i, none⟩ = some (.bool (bs i)))) :
    Calls Try.prog 4 #[.int .i64 a0, .slice sp L cap] w fun e w' => e = .returned (.bool true) ∧ Below w.heap.size w w' := by
  have HNew := Lib.hid (new_any 4 (by decide) (by decide) w)
  have HLasts := Lib.hid lasts_any
  have HFull := Lib.hid (fun x W => full_any x W)
  obtain ⟨N, hN20, hN⟩ : ∃ N : Nat, N < 20 ∧ wrap64 ((IntKind.u64.wrap a0).tmod 20) = (N : Int) := by
    have h0 : 0 ≤ IntKind.u64.wrap a0 := by rw [IntKind.wrap_u64]; omega
    rw [Int.tmod_eq_emod_of_nonneg h0]
    generalize IntKind.u64.wrap a0 = q at *
    refine ⟨(q % 20).toNat, by omega, ?_⟩
    unfold wrap64
    omega
  go_enter Try.func4, Try.ntmps4
  go_wp2_with fail
  refine HNew.out.mono ?_
  rintro e w1 ⟨g, gn, gl, cn, cl, rfl, hD, hB⟩
  have hD1 := Lib.hid hD
  have hB1 := Lib.hid hB
  clear hD hB HNew
  go_wp2_with fail
  refine (HLasts.out w1).mono ?_
  rintro e w2 ⟨rfl, hB⟩
  have hD2 := Lib.hid (hD1.out.below hB)
  have hB2 := Lib.hid (hB1.out.trans (hB.mono hB1.out.size))
  clear hB hD1 hB1 HLasts
  go_wp2_with fail
  refine (arm_any g _ _ _ _ _ _ _ w2 (N : Int) (Lib.hid hD2.out.head)).mono ?_
  rintro e w3 ⟨rfl, hH, hO⟩
  have hd3 := dk_head hD2.out hH hO
  rw [if_neg (by omega)] at hd3
  have hI3 : Hid (SInv w w3 g gn gl cn cl N 0 false 0) := Lib.hid ⟨⟨_, _, _, [], by have := hd3.1; simpa using this, by simp, allStr_rep 4 zeros, allStr_rep 4 zeros, Nat.le_refl _⟩, Nat.zero_le _, by simp, hB2.out.trans hd3.2⟩
  clear hH hO hd3 hD2 hB2
  go_wp2_with fail
  go_loopw [7, 8] (fun q i wr => ∃ (k m : Nat) (off : Bool), q = .int .i64 (m : Int) ∧ i = .int .i64 (k : Int) ∧ k ≤ 40 ∧ k ≤ L ∧ Hid (SInv w wr g gn gl cn cl N m off k)) (fun _ i _ => 40 - (intOf i).toNat)
  case atStart => exact ⟨0, 0, false, rfl, rfl, by omega, by omega, hI3⟩
  case round =>
    obtain ⟨k, m, off, rfl, rfl, hk40, hkL, hI⟩ := hrel
    clear hI3
    have hm20 : m ≤ N := hI.out.le
    by_cases hk : k < L ∧ k < 40
    · obtain ⟨hk1, hk2⟩ := hk
      obtain ⟨g', o', rfl, hcell⟩ := hsrc.out _ hI.out.below k hk1
      obtain ⟨vw, ns, ls, W, hD, hWin, hns, hls, hWl⟩ := hI.out.dk
      have hbel := Lib.hid hI.out.below
      have hoff := Lib.hid hI.out.offd
      have hDh := Lib.hid hD
      have hX := Lib.hid (And.intro hWin (And.intro hns (And.intro hls hWl)))
      have hgs : Hid (wr.heap.size ≠ g) := Lib.hid (Nat.ne_of_gt (head_lt hD.head))
      clear hD hWin hns hls hWl hI
      have hkm : ((k % 4 : Nat) : Int) = (k : Int) % 4 := by omega
      cases hb : bs k with
      | true =>
        rw [hb] at hcell
        by_cases hmN : m < N
        · have hoff0 : off = false := by cases off with | false => rfl | true => exact absurd (hoff.out rfl) (by omega)
          subst hoff0
          go_wp2_with fail
          refine (HFull.out _ wr).mono ?_
          rintro e w4 ⟨rfl, hF⟩
          have hD4 := Lib.hid (hDh.out.below hF.below)
          have hS4 := Lib.hid (sec_of hF)
          have hB4 := Lib.hid (hbel.out.trans (hF.below.mono hbel.out.size))
          clear hF
          go_wp2_with fail
          refine (dk_write ((N : Int) - ((m + 1 : Nat) : Int)) (by rw [if_pos rfl]; omega) ((k : Int) % 4) (k % 4) hkm hD4.out (by omega) wr.heap.size _ hS4.out hgs.out (by have := hX.out.2.2.2; omega) (by omega) (by omega) (by omega) (by omega) (by omega)).mono ?_
          rintro e w5 ⟨rfl, ⟨gw, cw, hD⟩, hB⟩
          have hD5 : Hid (DkAt w.heap.size w5 g gn gl 4 cn cl _ _ _ _ ((m + 1 : Nat) : Int) true _ false) := Lib.hid hD
          have hB5 := Lib.hid (hB4.out.trans hB)
          have hX5 := Lib.hid (And.intro (snoc_lt hX.out.1 (k % 4) (by omega) (secS (k : Int))) (And.intro (allStr_set hX.out.2.1 (k % 4) (secS (k : Int))) (And.intro hX.out.2.2.1 (show (W ++ [(k % 4, secS (k : Int))]).length ≤ k + 1 by rw [List.length_append]; have := hX.out.2.2.2; simp; omega))))
          clear hD hB
          obtain ⟨s, hcs⟩ := now_zero hD5.out hX5.out.2.1
          have HR := Lib.hid (read_ok g _ _ _ _ _ _ w5 0 s gn 4 cn rfl (by decide) hcs (Lib.hid hD5.out.head))
          clear hcs
          go_wp2_with fail
          refine HR.out.mono ?_
          rintro e w6 ⟨cap6, rfl, _, _, hB⟩
          have hD6 := Lib.hid (hD5.out.below hB)
          have hB6 := Lib.hid (hB5.out.trans (hB.mono hB5.out.size))
          clear hB HR
          have HOff := Lib.hid (off_any g _ _ _ _ _ _ _ w6 (Lib.hid hD6.out.head))
          have HSt := Lib.hid (steps_any g _ _ _ _ _ _ _ w6 (Lib.hid hD6.out.head))
          go_wp2_with fail
          refine HOff.out.mono ?_
          rintro e w' ⟨rfl, hww⟩
          have hww := hww.symm
          subst hww
          go_wp2_with fail
          refine HOff.out.mono ?_
          rintro e w' ⟨rfl, hww⟩
          have hww := hww.symm
          subst hww
          go_wp2_with fail
          refine HSt.out.mono ?_
          rintro e w' ⟨rfl, hww⟩
          have hww := hww.symm
          subst hww
          go_wp2_with fail
          go_roundw
          case rel => exact ⟨k + 1, m + 1, false, by go_num, by go_num, by omega, by omega, Lib.hid ⟨⟨_, _, _, _, hD6.out, hX5.out⟩, by omega, by simp, hB6.out⟩⟩
          case measure => simp [intOf]; omega
        · obtain rfl : m = N := by omega
          go_wp2_with fail
          refine (HFull.out _ wr).mono ?_
          rintro e w4 ⟨rfl, hF⟩
          have hD4 := Lib.hid (hDh.out.below hF.below)
          have hS4 := Lib.hid (sec_of hF)
          have hB4 := Lib.hid (hbel.out.trans (hF.below.mono hbel.out.size))
          clear hF
          have hH := write_down g _ _ _ _ _ _ off w4 ((k : Int) % 4) (some ⟨wr.heap.size, 0, none⟩) 512 gn 4 cn rfl (by omega) (by omega) (Lib.hid hD4.out.head) (Lib.hid (.inl ⟨rfl, by omega⟩))
          have HW := Lib.hid hH
          clear hH
          go_wp2_with fail
          refine HW.out.mono ?_
          rintro e w5 ⟨rfl, hH, hO⟩
          have hd := dk_head hD4.out hH hO
          have hD5 := Lib.hid hd.1
          have hB5 := Lib.hid (hB4.out.trans hd.2)
          clear hH hO hd HW
          have HR := Lib.hid (read_down g _ _ _ _ _ _ w5 0 (Lib.hid hD5.out.head))
          go_wp2_with fail
          refine HR.out.mono ?_
          rintro e w' ⟨rfl, hww⟩
          have hww := hww.symm
          subst hww
          have HOff := Lib.hid (off_any g _ _ _ _ _ _ _ w5 (Lib.hid hD5.out.head))
          have HSt := Lib.hid (steps_any g _ _ _ _ _ _ _ w5 (Lib.hid hD5.out.head))
          go_wp2_with fail
          refine HOff.out.mono ?_
          rintro e w' ⟨rfl, hww⟩
          have hww := hww.symm
          subst hww
          go_wp2_with fail
          refine HOff.out.mono ?_
          rintro e w' ⟨rfl, hww⟩
          have hww := hww.symm
          subst hww
          go_wp2_with fail
          refine HSt.out.mono ?_
          rintro e w' ⟨rfl, hww⟩
          have hww := hww.symm
          subst hww
          go_wp2_with fail
          go_roundw
          case rel => exact ⟨k + 1, m, true, rfl, by go_num, by omega, by omega, Lib.hid ⟨⟨_, _, _, _, hD5.out, hX.out.1, hX.out.2.1, hX.out.2.2.1, Nat.le_succ_of_le hX.out.2.2.2⟩, Nat.le_refl _, fun _ => rfl, hB5.out⟩⟩
          case measure => simp [intOf]; omega
      | false =>
        rw [hb] at hcell
        by_cases hmN : m < N
        · have hoff0 : off = false := by cases off with | false => rfl | true => exact absurd (hoff.out rfl) (by omega)
          subst hoff0
          go_wp2_with fail
          refine (dk_barrier ((N : Int) - ((m + 1 : Nat) : Int)) (by rw [if_pos rfl]; omega) hDh.out hX.out.1 (by have := hX.out.2.2.2; omega) (by omega) (by omega) (by omega) (by omega) (by omega)).mono ?_
          rintro e w5 ⟨rfl, hD, hB⟩
          have hD5 : Hid (DkAt w.heap.size w5 g gn gl 4 cn cl _ _ _ _ ((m + 1 : Nat) : Int) true _ false) := Lib.hid hD
          have hB5 := Lib.hid (hbel.out.trans hB)
          have hX5 := Lib.hid (show (∀ x ∈ ([] : List (Nat × ByteArray)), x.1 < 4) ∧ AllStr ns ∧ AllStr (setAll ls W) ∧ ([] : List (Nat × ByteArray)).length ≤ k + 1 from ⟨by simp, hX.out.2.1, setAll_str hX.out.2.2.1 W, by simp⟩)
          clear hD hB
          obtain ⟨s, hcs⟩ := now_zero hD5.out hX5.out.2.1
          have HR := Lib.hid (read_ok g _ _ _ _ _ _ w5 0 s gn 4 cn rfl (by decide) hcs (Lib.hid hD5.out.head))
          clear hcs
          go_wp2_with fail
          refine HR.out.mono ?_
          rintro e w6 ⟨cap6, rfl, _, _, hB⟩
          have hD6 := Lib.hid (hD5.out.below hB)
          have hB6 := Lib.hid (hB5.out.trans (hB.mono hB5.out.size))
          clear hB HR
          have HOff := Lib.hid (off_any g _ _ _ _ _ _ _ w6 (Lib.hid hD6.out.head))
          have HSt := Lib.hid (steps_any g _ _ _ _ _ _ _ w6 (Lib.hid hD6.out.head))
          go_wp2_with fail
          refine HOff.out.mono ?_
          rintro e w' ⟨rfl, hww⟩
          have hww := hww.symm
          subst hww
          go_wp2_with fail
          refine HOff.out.mono ?_
          rintro e w' ⟨rfl, hww⟩
          have hww := hww.symm
          subst hww
          go_wp2_with fail
          refine HSt.out.mono ?_
          rintro e w' ⟨rfl, hww⟩
          have hww := hww.symm
          subst hww
          go_wp2_with fail
          go_roundw
          case rel => exact ⟨k + 1, m + 1, false, by go_num, by go_num, by omega, by omega, Lib.hid ⟨⟨_, _, _, _, hD6.out, hX5.out⟩, by omega, by simp, hB6.out⟩⟩
          case measure => simp [intOf]; omega
        · obtain rfl : m = N := by omega
          have hH := barrier_down g _ _ _ _ _ _ off wr (Lib.hid hDh.out.head) (Lib.hid (.inl ⟨rfl, by omega⟩))
          have HW := Lib.hid hH
          clear hH
          go_wp2_with fail
          refine HW.out.mono ?_
          rintro e w5 ⟨rfl, hH, hO⟩
          have hd := dk_head hDh.out hH hO
          have hD5 := Lib.hid hd.1
          have hB5 := Lib.hid (hbel.out.trans hd.2)
          clear hH hO hd HW
          have HR := Lib.hid (read_down g _ _ _ _ _ _ w5 0 (Lib.hid hD5.out.head))
          go_wp2_with fail
          refine HR.out.mono ?_
          rintro e w' ⟨rfl, hww⟩
          have hww := hww.symm
          subst hww
          have HOff := Lib.hid (off_any g _ _ _ _ _ _ _ w5 (Lib.hid hD5.out.head))
          have HSt := Lib.hid (steps_any g _ _ _ _ _ _ _ w5 (Lib.hid hD5.out.head))
          go_wp2_with fail
          refine HOff.out.mono ?_
          rintro e w' ⟨rfl, hww⟩
          have hww := hww.symm
          subst hww
          go_wp2_with fail
          refine HOff.out.mono ?_
          rintro e w' ⟨rfl, hww⟩
          have hww := hww.symm
          subst hww
          go_wp2_with fail
          refine HSt.out.mono ?_
          rintro e w' ⟨rfl, hww⟩
          have hww := hww.symm
          subst hww
          go_wp2_with fail
          go_roundw
          case rel => exact ⟨k + 1, m, true, rfl, by go_num, by omega, by omega, Lib.hid ⟨⟨_, _, _, _, hD5.out, hX.out.1, hX.out.2.1, hX.out.2.2.1, Nat.le_succ_of_le hX.out.2.2.2⟩, Nat.le_refl _, fun _ => rfl, hB5.out⟩⟩
          case measure => simp [intOf]; omega
    · obtain ⟨vw, ns, ls, W, hD, hWin, hns, hls, hWl⟩ := hI.out.dk
      have HC := Lib.hid (dk_crash hD hls hWin (by omega) none 0 0 (fun _ => 0) (fun _ _ i hi => absurd hi (Nat.not_lt_zero i)))
      have hbel := Lib.hid hI.out.below
      clear hD hWin hns hls hWl hI
      by_cases hk1 : k < L
      · have hk2 : ¬ k < 40 := fun h => hk ⟨hk1, h⟩
        go_wp2_with fail
        refine HC.out.mono ?_
        rintro e w5 ⟨rfl, hD, hB⟩
        have hB5 := Lib.hid (hbel.out.trans hB)
        have HOff := Lib.hid (off_any g _ _ _ _ _ _ _ w5 (Lib.hid hD.head))
        have HBar := Lib.hid (dk_barrier 0 rfl hD (by simp) (by simp) (by decide) (by decide) (by omega) (by omega) (by simp))
        clear hD hB HC
        go_wp2_with fail
        refine HOff.out.mono ?_
        rintro e w' ⟨rfl, hww⟩
        have hww := hww.symm
        subst hww
        go_wp2_with fail
        refine HBar.out.mono ?_
        rintro e w6 ⟨rfl, _, hB⟩
        have hB6 := Lib.hid (hB5.out.trans hB)
        clear hB
        go_wp2_with fail
        go_ret
        exact ⟨rfl, hB6.out⟩
      · clear hk
        go_wp2_with fail
        refine HC.out.mono ?_
        rintro e w5 ⟨rfl, hD, hB⟩
        have hB5 := Lib.hid (hbel.out.trans hB)
        have HOff := Lib.hid (off_any g _ _ _ _ _ _ _ w5 (Lib.hid hD.head))
        have HBar := Lib.hid (dk_barrier 0 rfl hD (by simp) (by simp) (by decide) (by decide) (by omega) (by omega) (by simp))
        clear hD hB HC
        go_wp2_with fail
        refine HOff.out.mono ?_
        rintro e w' ⟨rfl, hww⟩
        have hww := hww.symm
        subst hww
        go_wp2_with fail
        refine HBar.out.mono ?_
        rintro e w6 ⟨rfl, _, hB⟩
        have hB6 := Lib.hid (hB5.out.trans hB)
        clear hB
        go_wp2_with fail
        go_ret
        exact ⟨rfl, hB6.out⟩
theorem spot_none {w : World} {x : Addr} {v : Value} (h : w.cell? (x.add 0) = some v) : ∃ g o, x = ⟨g, o, none⟩ := by
  obtain ⟨g, o, s⟩ := x
  cases s with
  | none => exact ⟨g, o, rfl⟩
  | some s =>
    simp [World.cell?, Addr.add] at h
    split at h <;> cases h
theorem add_at (g o i : Nat) : (⟨g, o, none⟩ : Addr).add i = ⟨g, o + i, none⟩ := by unfold Addr.add; split <;> simp_all
theorem diskSteps_walk (a0 : Int) (a1 : Option Addr) (len1 cap1 : Nat) (z1 : List Bool) (w : World)
    (w1 : (a1 = none ∧ len1 = 0 ∧ cap1 = 0 ∧ z1 = []) ∨ ∃ x, a1 = some x ∧ len1 ≤ cap1 ∧ cap1 ≤ maxLen ∧ z1.length = cap1 ∧ (∀ i, i < z1.length → w.cell? (x.add i) = some (.bool (z1.getD i false))) ∧ True) :
    Calls Try.prog 4 #[.int .i64 a0, .slice a1 len1 cap1] w fun e w' => e = .returned (.bool true) ∧ Below w.heap.size w w' := by
  refine diskSteps_mid a0 a1 len1 cap1 (fun i => z1.getD i false) w ?_ (Lib.hid fun V hV i hi => ?_)
  · rcases w1 with ⟨_, h, _, _⟩ | ⟨x, _, h1, h2, _⟩
    · omega
    · unfold maxLen at h2; omega
  · rcases w1 with ⟨_, h, _, _⟩ | ⟨x, rfl, h1, h2, h3, h4, _⟩
    · omega
    · obtain ⟨g, o, rfl⟩ := spot_none (h4 0 (by omega))
      refine ⟨g, o, rfl, ?_⟩
      have hc := h4 i (by omega)
      rw [add_at] at hc
      rw [hV.cell (World.block_lt_of_cell? w _ hc)]
      exact hc
end Go.Proofs.Ytmojieomdbfjcaa
