/- Contract of the law's lasts: of two writes that wait, the one that is picked survives. -/
import Derived.Test.YtmojieomdbfjcaaDk
namespace Go.Proofs.Ytmojieomdbfjcaa
open Go.ChangeShapes Go.WideShapes Go.ChangeAt Go.RowKit

theorem secS_size (x : Int) : (secS x).size = 512 := by unfold secS; rw [strOfNums_size, List.length_replicate]
theorem secS_get (k : Int) (x : Nat) (hk : (x : Int) = k) (hx : x < 256) (j : Nat) (hj : j < 512) : ((secS k).data.toList.getD j 0).toNat = x := by
  subst hk
  unfold secS
  rw [strOfNums_data, List.map_replicate, List.getD_eq_getElem?_getD, List.getElem?_replicate, if_pos hj]
  simp
  omega
theorem allStr_rep (n : Nat) (s : ByteArray) : AllStr (List.replicate n (.string s)) := fun _ hv => ⟨s, (List.mem_replicate.1 hv).2⟩
theorem setAll_str {ys : List Value} (h : AllStr ys) (W : List (Nat × ByteArray)) : AllStr (setAll ys W) := by
  unfold setAll
  induction W generalizing ys with
  | nil => exact h
  | cons x t ih => exact ih (allStr_set h _ _)
theorem lasts_now (v u : Value) (s2 s3 : ByteArray) : nowTo [v] (pickTo [u] [(0, s2), (0, s3)] (fun i => decide (i < 1) && od 1) 2) [(0, s2), (0, s3)] 2 = [.string s2] := by
  have h0 : od 1 = true := by decide
  simp [nowTo, pickTo, h0]
theorem one_of {l : List Value} (h : l.length = 1) : ∃ v, l = [v] := by
  match l, h with
  | [v], _ => exact ⟨v, rfl⟩
set_option maxRecDepth 20000 in
theorem lasts_any (w : World) : Calls Try.prog 7 #[] w fun e w' => e = .returned (.bool true) ∧ Below w.heap.size w w' := by
  have HNew := Lib.hid (new_any 1 (by decide) (by decide) w)
  have HFull := Lib.hid (fun x W => full_any x W)
  go_enter Try.func7, Try.ntmps7
  go_wp2_with fail
  refine HNew.out.mono ?_
  rintro e w1 ⟨g, gn, gl, cn, cl, rfl, hD, hB⟩
  have hD1 := Lib.hid hD
  have hB1 := Lib.hid hB
  clear hD hB HNew
  go_wp2_with fail
  refine (HFull.out 1 w1).mono ?_
  rintro e w2 ⟨rfl, hF⟩
  have hD2 := Lib.hid (hD1.out.below hF.below)
  have hS2 := Lib.hid (sec_of hF)
  have hg2 : Hid (w1.heap.size ≠ g) := Lib.hid (Nat.ne_of_gt (head_lt hD1.out.head))
  have hB2 := Lib.hid (hB1.out.trans (hF.below.mono hB1.out.size))
  clear hF hD1 hB1
  go_wp2_with fail
  refine (dk_write 0 rfl 0 0 rfl hD2.out (by decide) w1.heap.size 1 hS2.out hg2.out (by decide) (by decide) (by decide) (by decide) (by decide) (by decide)).mono ?_
  rintro e w3 ⟨rfl, ⟨gw, cw, hD⟩, hB⟩
  have hD3 := Lib.hid hD
  have hB3 := Lib.hid (hB2.out.trans hB)
  clear hD hB hB2 hD2 hS2 hg2
  go_wp2_with fail
  refine (dk_barrier 0 rfl hD3.out (by simp) (by simp) (by decide) (by decide) (by decide) (by decide) (by decide)).mono ?_
  rintro e w4 ⟨rfl, hD, hB⟩
  have hls4 := Lib.hid (setAll_str (allStr_rep 1 zeros) ([] ++ [(0, secS 1)]))
  obtain ⟨ns4, hns4⟩ : ∃ l, (List.replicate 1 (Value.string zeros)).set 0 (.string (secS 1)) = l := ⟨_, rfl⟩
  obtain ⟨ls4, hl4⟩ : ∃ l, setAll (List.replicate 1 (Value.string zeros)) ([] ++ [(0, secS 1)]) = l := ⟨_, rfl⟩
  rw [hns4, hl4] at hD
  rw [hl4] at hls4
  have hD4 := Lib.hid hD
  have hB4 := Lib.hid (hB3.out.trans hB)
  clear hD hB hB3 hD3 hns4 hl4
  go_wp2_with fail
  refine (HFull.out 2 w4).mono ?_
  rintro e w5 ⟨rfl, hF⟩
  have hD5 := Lib.hid (hD4.out.below hF.below)
  have hS5 := Lib.hid (sec_of hF)
  have hg5 : Hid (w4.heap.size ≠ g) := Lib.hid (Nat.ne_of_gt (head_lt hD4.out.head))
  have hB5 := Lib.hid (hB4.out.trans (hF.below.mono hB4.out.size))
  clear hF hD4 hB4
  go_wp2_with fail
  refine (dk_write 0 rfl 0 0 rfl hD5.out (by decide) w4.heap.size 2 hS5.out hg5.out (by decide) (by decide) (by decide) (by decide) (by decide) (by decide)).mono ?_
  rintro e w6 ⟨rfl, ⟨gw6, cw6, hD⟩, hB⟩
  have hD6 := Lib.hid hD
  have hB6 := Lib.hid (hB5.out.trans hB)
  clear hD hB hB5 hD5 hS5 hg5
  go_wp2_with fail
  refine (HFull.out 3 w6).mono ?_
  rintro e w7 ⟨rfl, hF⟩
  have hD7 := Lib.hid (hD6.out.below hF.below)
  have hS7 := Lib.hid (sec_of hF)
  have hg7 : Hid (w6.heap.size ≠ g) := Lib.hid (Nat.ne_of_gt (head_lt hD6.out.head))
  have hB7 := Lib.hid (hB6.out.trans (hF.below.mono hB6.out.size))
  clear hF hD6 hB6
  go_wp2_with fail
  refine (dk_write 0 rfl 0 0 rfl hD7.out (by decide) w6.heap.size 3 hS7.out hg7.out (by simp) (by decide) (by decide) (by decide) (by decide) (by decide)).mono ?_
  rintro e w8 ⟨rfl, ⟨gw8, cw8, hD⟩, hB⟩
  have hB8 := Lib.hid (hB7.out.trans hB)
  have hal : Below w8.heap.size w8 (w8.alloc (Obj.cells #[Value.int .i64 1] 3)) := (Below.refl _ _).alloc (Nat.le_refl _) _
  have hD9 := Lib.hid (hD.below hal)
  have hB9 := Lib.hid (hB8.out.trans (hal.mono hB8.out.size))
  have hc9 : (w8.alloc (Obj.cells #[Value.int .i64 1] 3)).cell? ⟨w8.heap.size, 0, none⟩ = some (.int .i64 1) := by rw [World.cell?_alloc_mark]; rfl
  have hne9 : w8.heap.size ≠ gl := by
    obtain ⟨cur, hq⟩ := own_type hD.rows
    exact Nat.ne_of_gt (Array.getElem?_eq_some_iff.1 hq).1
  have hpk9 := Lib.hid (show ∀ W', Only (· = gl) (w8.alloc (Obj.cells #[Value.int .i64 1] 3)) W' → ∀ i, i < 1 → ∃ g' o, (some ⟨w8.heap.size, 0, none⟩ : Option Addr) = some ⟨g', o, none⟩ ∧ W'.cell? ⟨g', o + i, none⟩ = some (.int .i64 1) from fun W' hO i hi => ⟨w8.heap.size, 0, rfl, by
    obtain rfl : i = 0 := by omega
    rw [show W'.cell? ⟨w8.heap.size, 0 + 0, none⟩ = (w8.alloc (Obj.cells #[Value.int .i64 1] 3)).cell? ⟨w8.heap.size, 0, none⟩ by unfold World.cell?; rw [hO.block _ (by simp) hne9]]
    exact hc9⟩)
  clear hD hB hB7 hD7 hS7 hg7 hal hc9 hne9 hB8
  go_wp2_with fail
  refine (dk_crash hD9.out hls4.out (by simp) (by simp) _ 1 1 (fun _ => 1) hpk9.out).mono ?_
  rintro e w10 ⟨rfl, hD, hB⟩
  have hrow : w10.ownsRow 0 9 1 (.slice (some ⟨gn, 0, none⟩) 1 cn) 1 [.string (secS 2)] := by
    have h1 := hD.now
    have h2 := hD.rows.1
    have h3 := h1.1
    rw [nowTo_len] at h3
    rw [pickTo_len] at h2
    obtain ⟨v, hv⟩ := one_of (l := (ns4.set 0 (Value.string (secS 2))).set 0 (Value.string (secS 3))) h3
    obtain ⟨u, hu⟩ := one_of (l := ls4) h2
    rw [hv, hu] at h1
    rw [← lasts_now v u (secS 2) (secS 3)]
    exact h1
  have hc10 : w10.cell? ⟨gn, 0, none⟩ = some (.string (secS 2)) := by rw [World.ownsRow.cellAt hrow 0 (by decide)]; rfl
  have HR := Lib.hid (read_ok g _ _ _ _ _ _ w10 0 (secS 2) gn 1 cn rfl (by decide) hc10 (Lib.hid hD.head))
  rw [secS_size] at HR
  have hB10 := Lib.hid (hB9.out.trans hB)
  clear hrow hc10 hD hB hB9 hD9 hpk9
  go_wp2_with fail
  refine HR.out.mono ?_
  rintro e w11 ⟨cap, rfl, hcs, hlt, hB⟩
  have hc11 := hcs 0 (by decide)
  rw [secS_get 2 2 rfl (by decide) 0 (by decide)] at hc11
  have hB11 := Lib.hid (hB10.out.trans (hB.mono hB10.out.size))
  clear hcs hlt hB hB10 HR
  go_wp2_with fail
  go_ret
  exact ⟨rfl, hB11.out⟩
end Go.Proofs.Ytmojieomdbfjcaa
