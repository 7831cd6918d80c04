/- The walk of the law NumReads. No condition but that the word is one. -/
import Derived.Test.YtodpglladcblhaaReadM
namespace Go.Proofs.Ytodpglladcblhaa
open Go.ChangeShapes Go.WideShapes Go.ChangeAt Go.RowKit

theorem sign_or (L : List UInt8) : ∃ (neg : Bool) (l : List UInt8), L = sgL neg l ∧ (neg = false → ∀ t, l ≠ 45 :: t) ∧ l.length ≤ L.length := by
  cases L with
  | nil => exact ⟨false, [], rfl, (fun _ t h => by cases h), Nat.le_refl _⟩
  | cons c t =>
    by_cases h : c = 45
    · exact ⟨true, t, by rw [h]; rfl, fun h => (by cases h), by simp⟩
    · exact ⟨false, c :: t, rfl, (fun _ t' e => h (List.cons.inj e).1), Nat.le_refl _⟩
theorem readF_all (neg : Bool) (l : List UInt8) (hs : l.length ≤ 2000) (hl : neg = false → ∀ t, l ≠ 45 :: t) (w : World) :
    Calls Try.prog 41 #[.string (st (sgL neg l))] w fun e w' => e = rfOut neg l ∧ ∃ n, w' = w.drewN n := by
  cases hg : good l
  · rw [out_bad neg l hg]; exact readF_no neg l hs hl hg w
  · by_cases hb : (ahd l).length + (bhd l).length ≤ 15
    · have e : rfOut neg l = .returned (.tuple #[.int .u64 (((if neg then negW (quoN l) else quoN l : Nat)) : Int), .int .i64 0]) := by
        unfold rfOut rfX rfE; rw [if_pos hg, if_pos hg, if_pos hb, if_pos hb]
      rw [e]; exact readF_ok neg l hs hl hg hb w
    · rw [out_big neg l hg (by omega)]; exact readF_big neg l hs hl hg (by omega) w
theorem refRead_all (neg : Bool) (l : List UInt8) (hs : l.length ≤ 2000) (hl : neg = false → ∀ t, l ≠ 45 :: t) (w : World) :
    Calls Try.prog 42 #[.string (st (sgL neg l))] w fun e w' => e = rfOut neg l ∧ ∃ n, w' = w.drewN n := by
  cases neg
  · have HB := Lib.hid (byte_of [] l)
    rw [show sgL false l = [] ++ l from rfl]
    have hsz : (st ([] ++ l)).size = 0 + l.length := size_of_pre [] l 0 rfl
    by_cases he : l.length = 0
    · exact refRead_empty _ l (by omega) (List.length_eq_zero_iff.1 he) w
    · have h0 : 0 < (st ([] ++ l)).size := by omega
      refine refRead_plain _ l hsz hs HB (by omega) h0 ?_ w
      rw [get_list _ 0 h0]
      cases l with
      | nil => exact absurd rfl he
      | cons c t =>
        have hc : c ≠ 45 := fun e => hl rfl t (by rw [e])
        rw [beq_eq_false_iff_ne]
        intro e
        apply hc
        simp [st] at e
        exact UInt8.toNat_inj.1 (by simpa using (by omega : c.toNat = 45))
  · have HB := Lib.hid (byte_of [45] l)
    rw [show sgL true l = [45] ++ l from rfl]
    have hsz : (st ([45] ++ l)).size = 1 + l.length := size_of_pre [45] l 1 rfl
    have h0 : 0 < (st ([45] ++ l)).size := by omega
    refine refRead_minus _ l hsz hs HB (by omega) h0 ?_ w
    rw [get_list _ 0 h0]
    simp [st]

theorem numReads_walk (s : ByteArray) (x : Nat) (hx : x < 18446744073709551616) (w : World) : Calls Try.prog 9 #[.string s, .int .u64 (x : Int)] w fun e w' => e = .returned (.bool true) ∧ Grown w w' := by
  have HX := Lib.hid hx
  clear hx
  by_cases hs : s.size ≤ 2000
  · obtain ⟨neg, l, e, hl, hlen⟩ := sign_or s.data.toList
    have hsl : l.length ≤ 2000 := by have : s.data.toList.length = s.size := by simp
                                     omega
    have he : s = st (sgL neg l) := by rw [← e]; exact st_eq s
    have H1 := Lib.hid (readF_all neg l hsl hl)
    have H2 := Lib.hid (refRead_all neg l hsl hl)
    clear e hl hlen hsl
    subst he
    unfold rfOut at H1 H2
    go_enter Try.func9, Try.ntmps9
    go_wp2_with (first
      | (go_at_call 41; refine (H1.out _).mono ?_; rintro e w' ⟨rfl, n, rfl⟩)
      | (go_at_call 42; refine (H2.out _).mono ?_; rintro e w' ⟨rfl, n, rfl⟩)
      | (go_at_call 13; refine (counts_any _).mono ?_; rintro e w' ⟨rfl, rfl⟩)
      | (go_at_call 43; refine (bits_any _ HX.out _).mono ?_; rintro e w1 ⟨rfl, hg⟩)
      | (go_at_call 44; refine (refBits_any _ _).mono ?_; rintro e w' ⟨rfl, n3, rfl⟩))
    go_ret
    exact ⟨rfl, hg⟩
  · have hs' : (2000 : Int) < (s.size : Int) := by omega
    go_enter Try.func9, Try.ntmps9
    go_wp2_with (go_at_call 13; refine (counts_any _).mono ?_; rintro e w' ⟨rfl, rfl⟩)
    go_ret
    exact ⟨rfl, Grown.refl _⟩
end Go.Proofs.Ytodpglladcblhaa
