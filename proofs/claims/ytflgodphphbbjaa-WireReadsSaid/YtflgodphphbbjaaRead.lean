/- Contracts of the reading side: Fail, End, Str. No condition but that the bytes are few. -/
import Derived.Test.YtflgodphphbbjaaOnce
namespace Go.Proofs.Ytflgodphphbbjaa
open Go.ChangeShapes Go.WideShapes Go.ChangeAt Go.RowKit Go.Lib

theorem box_fail {w : World} {g : Nat} {L : List Nat} {err : Int} (h : Box w g L err) (e : Int) : Box (w.setCell ⟨g, 1, none⟩ (.int .i64 e)) g L e := by
  obtain ⟨hh, o, cap, hg, h1, h2, h3⟩ := h
  exact ⟨hh, o, cap, box_set1 hg _, h1, h2, at_set h3 _ _ h2 _⟩
theorem box_facts {w : World} {g : Nat} {L : List Nat} {err : Int} (h : Box w g L err) : w.cell? ⟨g, 1, none⟩ = some (.int .i64 err) ∧ w.frozen? ⟨g, 1, none⟩ = false := by
  obtain ⟨hh, o, cap, hg, _⟩ := h
  exact ⟨box_cell1 hg, box_free hg⟩
set_option maxRecDepth 20000 in
theorem fail_any (g : Nat) (L : List Nat) (err e0 : Int) (w : World) (hb : Hid (Box w g L err)) :
    Calls Try.prog 14 #[.pointer (some ⟨g, 0, none⟩), .int .i64 e0] w fun e w' => e = .returned (.tuple #[]) ∧ Box w' g L (if err = 0 then e0 else err) ∧ Below g w w' := by
  obtain ⟨hc, hf⟩ := box_facts hb.out
  have HE := Lib.hid (err_any g L err w hb)
  by_cases h0 : err = 0
  · subst h0
    go_enter Try.func14, Try.ntmps14
    go_wp2_with fail
    refine HE.out.mono ?_
    rintro e w' ⟨rfl, rfl⟩
    go_wp2_with fail
    go_end0
    exact ⟨rfl, box_fail hb.out e0, below_set _ _ _ _⟩
  · go_enter Try.func14, Try.ntmps14
    go_wp2_with fail
    refine HE.out.mono ?_
    rintro e w' ⟨rfl, rfl⟩
    go_wp2_with fail
    go_end0
    exact ⟨rfl, hb.out, Below.refl _ _⟩
/-- the error at the end -/
def endE (L : List Nat) (err : Int) : Int := if 0 < L.length ∧ err = 0 then 2 else err
set_option maxRecDepth 20000 in
theorem end_any (g : Nat) (L : List Nat) (err : Int) (w : World) (hb : Hid (Box w g L err)) :
    Calls Try.prog 17 #[.pointer (some ⟨g, 0, none⟩)] w fun e w' => e = .returned (.int .i64 (endE L err)) ∧ Box w' g L (endE L err) ∧ Below g w w' := by
  have HL := Lib.hid (left_any g L err w hb)
  have HF := Lib.hid (fail_any g L err 2 w hb)
  have HE := Lib.hid (fun W h => err_any g L (if err = 0 then 2 else err) W h)
  have HE2 := Lib.hid (err_any g L err w hb)
  by_cases h0 : 0 < L.length
  · have hv : endE L err = if err = 0 then 2 else err := by
      unfold endE
      by_cases h : err = 0
      · rw [if_pos ⟨h0, h⟩, if_pos h]
      · rw [if_neg fun x => h x.2, if_neg h]
    rw [hv]
    generalize (if err = 0 then 2 else err) = er at *
    clear hv
    generalize L.length = n at HL h0
    go_enter Try.func17, Try.ntmps17
    go_wp2_with fail
    refine HL.out.mono ?_
    rintro e w' ⟨rfl, rfl⟩
    go_wp2_with fail
    refine HF.out.mono ?_
    rintro e w2 ⟨rfl, hb2', hl2'⟩
    have hb2 := Lib.hid hb2'
    have hl2 := Lib.hid hl2'
    clear hb2' hl2'
    go_wp2_with fail
    refine (HE.out _ hb2).mono ?_
    rintro e w' ⟨rfl, rfl⟩
    go_wp2_with fail
    go_ret
    exact ⟨rfl, hb2.out, hl2.out⟩
  · have hv : endE L err = err := if_neg fun h => h0 h.1
    rw [hv]
    clear hv
    have h00 : L.length = 0 := by omega
    rw [h00] at HL
    clear h00 h0
    go_enter Try.func17, Try.ntmps17
    go_wp2_with fail
    refine HL.out.mono ?_
    rintro e w' ⟨rfl, rfl⟩
    go_wp2_with fail
    refine HE2.out.mono ?_
    rintro e w' ⟨rfl, rfl⟩
    go_wp2_with fail
    go_ret
    exact ⟨rfl, hb.out, Below.refl _ _⟩
/-- the text at the front, of so many bytes at most -/
def rdS (most : Int) (L : List Nat) : List Nat × List Nat × Int :=
  let r := rdB 0 most L
  let T := L.drop r.2.1
  if r.2.2 ≠ 0 then ([], T, r.2.2) else if (T.length : Int) < r.1 then ([], T, 3) else (T.take r.1.toNat, T.drop r.1.toNat, 0)
theorem rdB_ge (most : Int) (L : List Nat) (h : (rdB 0 most L).2.2 = 0) : 0 ≤ (rdB 0 most L).1 := by
  unfold rdB at *
  split at h
  · exact absurd h (by decide)
  · rename_i hn
    split
    · exact Int.le_refl _
    · by_cases h0 : (rd 0 0 L).1 < 0
      · exact absurd ⟨h, .inl h0⟩ hn
      · omega
end Go.Proofs.Ytflgodphphbbjaa
