/- Contracts of one family of functions, put together: Fw. -/
import Derived.Test.YtfhgdcljhncjmaaDoorFw
namespace Go.Proofs.YtfhgdcljhncjmaaDoor.Fw
open Go.ChangeShapes Go.WideShapes Go.ChangeAt Go.RowKit Go.Lib

/-- the world is as it was, but for the blocks of S and for new ones -/
structure Only (S : Nat → Prop) (w w' : World) : Prop where
  os : w'.os = w.os
  tape : w'.tape = w.tape
  output : w'.output = w.output
  size : w.heap.size ≤ w'.heap.size
  block : ∀ k, k < w.heap.size → ¬ S k → w'.heap[k]? = w.heap[k]?
theorem Only.refl (S : Nat → Prop) (w : World) : Only S w w := ⟨rfl, rfl, rfl, Nat.le_refl _, fun _ _ _ => rfl⟩
theorem Only.trans {S : Nat → Prop} {a b c : World} (h : Only S a b) (k : Only S b c) : Only S a c :=
  ⟨k.os.trans h.os, k.tape.trans h.tape, k.output.trans h.output, Nat.le_trans h.size k.size, fun i hi hs => (k.block i (Nat.lt_of_lt_of_le hi h.size) hs).trans (h.block i hi hs)⟩
theorem Only.mono {S S' : Nat → Prop} {w w' : World} (h : Only S w w') (hs : ∀ k, k < w.heap.size → S k → S' k) : Only S' w w' := ⟨h.os, h.tape, h.output, h.size, fun k hk hn => h.block k hk fun x => hn (hs k hk x)⟩
theorem Only.below {S : Nat → Prop} {w w' : World} {B : Nat} (h : Only S w w') (hs : ∀ k, S k → B ≤ k) (hB : B ≤ w.heap.size) : Below B w w' := ⟨h.os, h.tape, h.output, h.size, fun k hk => h.block k (by omega) fun x => by have := hs k x; omega⟩
theorem Only.of_below {S : Nat → Prop} {w w' : World} (h : Below w.heap.size w w') : Only S w w' := ⟨h.os, h.tape, h.output, h.size, fun k hk _ => h.block k hk⟩
theorem Only.alloc {S : Nat → Prop} {a w : World} (h : Only S a w) (o : Obj) : Only S a (w.alloc o) :=
  h.trans ⟨rfl, rfl, rfl, by simp, fun _ hk _ => Below.heap_alloc _ _ _ hk⟩
theorem Only.drew {S : Nat → Prop} {a w : World} (h : Only S a w) : Only S a w.drew := ⟨h.os, h.tape, h.output, h.size, h.block⟩
theorem Only.setCell {S : Nat → Prop} {a w : World} (h : Only S a w) {p : Addr} (hp : S p.block) (u : Value) : Only S a (w.setCell p u) :=
  h.trans ⟨rfl, rfl, rfl, by simp [World.setCell], fun _ _ hn => Below.heap_setCell _ _ _ _ fun e => hn (e ▸ hp)⟩
theorem only_set {a w : World} {g : Nat} (h : Only (· = g) a w) (i : Nat) (u : Value) : Only (· = g) a (w.setCell ⟨g, i, none⟩ u) := h.setCell (p := ⟨g, i, none⟩) rfl u

set_option maxRecDepth 20000 in
set_option maxHeartbeats 1500000 in
theorem inNum_only (g : Nat) (L : List Nat) (least most : Int) (hn : L.length ≤ 1000000) (hB : ∀ b ∈ L, b < 256) (w : World) (hb : Hid (Box w g L 0)) :
    Calls Tryd.prog 62 #[.pointer (some ⟨g, 0, none⟩), .int .i64 least, .int .i64 most] w fun e w' => e = .returned (.int .i64 (rdB least most L).1) ∧ Box w' g (L.drop (rdB least most L).2.1) (rdB least most L).2.2 ∧ Only (· = g) w w' := by
  obtain ⟨hh, oo, cap, hg, hcap, hne, hat⟩ := hb.out
  have hc0 := box_cell0 hg
  have hc1 := box_cell1 hg
  have hf0 := box_free (i := 0) hg
  have hf1 := box_free (i := 1) hg
  have HG := Lib.hid (fun _ : True => hg)
  have HF := Lib.hid (first_any hh oo cap L hn hB w (Lib.hid hat))
  have HA := Lib.hid hat
  clear hg hat
  obtain ⟨n, sz, er, hr⟩ : ∃ n sz er, rd 0 0 L = (n, sz, er) := ⟨_, _, _, rfl⟩
  have hsz : sz ≤ L.length := by have := rd_size L 0 0; rw [hr] at this; have h2 : sz ≤ 0 + L.length := this; omega
  have HR := Lib.hid (fun _ : True => hr)
  have HE : Hid (True → er ≠ 0 → n = 0 ∧ sz = 0) := Lib.hid fun _ he => by have := rd_err L 0 0; rw [hr] at this; exact this he
  rw [hr] at HF
  clear hr
  by_cases he : er = 0
  · subst he
    by_cases hlo : n < least ∨ most < n
    · have hR : Hid (True → rdB least most L = (0, 0, 4)) := Lib.hid fun _ => by unfold rdB; rw [HR.out trivial]; exact if_pos ⟨rfl, hlo⟩
      rcases hlo with hlo | hlo
      all_goals
        go_enter Tryd.func62, Tryd.ntmps62
        go_wp2_with (first
          | (go_at_call 64; refine (err_any g L 0 _ hb).mono ?_; rintro e w' ⟨rfl, rfl⟩)
          | (go_at_call 79; refine HF.out.mono ?_; rintro e w' ⟨rfl, rfl⟩; unfold rdV))
        all_goals
          go_ret
          rw [hR.out trivial]
          exact ⟨rfl, ⟨hh, oo, cap, box_set1 (HG.out trivial) _, hcap, hne, at_set HA.out _ _ hne _⟩, only_set (Only.refl _ _) _ _⟩
    · have hR : Hid (True → rdB least most L = (n, sz, 0)) := Lib.hid fun _ => by unfold rdB; rw [HR.out trivial]; exact if_neg fun h => hlo h.2
      have hlo1 : least ≤ n := by omega
      have hlo2 : n ≤ most := by omega
      clear hlo
      by_cases hcs : cap = sz
      · subst hcs
        go_enter Tryd.func62, Tryd.ntmps62
        go_wp2_with (first
          | (go_at_call 64; refine (err_any g L 0 _ hb).mono ?_; rintro e w' ⟨rfl, rfl⟩)
          | (go_at_call 79; refine HF.out.mono ?_; rintro e w' ⟨rfl, rfl⟩; unfold rdV))
        all_goals
          go_ret
          rw [hR.out trivial]
          show _ = _ ∧ Box _ g (L.drop cap) 0 ∧ _
          refine ⟨rfl, ⟨hh, oo, cap - cap, ?_, by rw [List.length_drop]; omega, hne, at_nil (by rw [List.length_drop]; omega)⟩, only_set (Only.refl _ _) _ _⟩
          rw [List.length_drop, show L.length - cap = 0 by omega, Nat.sub_self]
          exact box_set0 (HG.out trivial) _
      · go_enter Tryd.func62, Tryd.ntmps62
        go_wp2_with (first
          | (go_at_call 64; refine (err_any g L 0 _ hb).mono ?_; rintro e w' ⟨rfl, rfl⟩)
          | (go_at_call 79; refine HF.out.mono ?_; rintro e w' ⟨rfl, rfl⟩; unfold rdV))
        all_goals
          go_ret
          rw [hR.out trivial]
          show _ = _ ∧ Box _ g (L.drop sz) 0 ∧ _
          refine ⟨rfl, ⟨hh, oo + sz, cap - sz, ?_, by rw [List.length_drop]; omega, hne, at_set (at_drop HA.out sz) _ _ hne _⟩, only_set (Only.refl _ _) _ _⟩
          rw [List.length_drop]
          exact box_set0 (HG.out trivial) _
  · have hR : Hid (True → rdB least most L = (0, 0, er)) := Lib.hid fun _ => by
      unfold rdB; rw [HR.out trivial, if_neg fun h => he h.1]
      obtain ⟨e1, e2⟩ := HE.out trivial he
      rw [e1, e2]
    go_enter Tryd.func62, Tryd.ntmps62
    go_wp2_with (first
      | (go_at_call 64; refine (err_any g L 0 _ hb).mono ?_; rintro e w' ⟨rfl, rfl⟩)
      | (go_at_call 79; refine HF.out.mono ?_; rintro e w' ⟨rfl, rfl⟩; unfold rdV))
    all_goals
      go_ret
      rw [hR.out trivial]
      exact ⟨rfl, ⟨hh, oo, cap, box_set1 (HG.out trivial) _, hcap, hne, at_set HA.out _ _ hne _⟩, only_set (Only.refl _ _) _ _⟩
/-- the document's reader in memory: what is left, its first error -/
def RBox (w : World) (g : Nat) (s : ByteArray) (err : Int) : Prop := w.heap[g]? = some (.cells #[.string s, .int .i64 err] 80 (0, 0))
theorem bytesOf_drop (s : ByteArray) (k : Nat) : bytesOf (s.extract k s.size) = (bytesOf s).drop k := by
  unfold bytesOf
  rw [ByteArray.data_extract, Array.toList_extract, List.extract_eq_take_drop, List.map_take, List.map_drop, List.take_of_length_le]
  simp
theorem bytesOf_take (s : ByteArray) (k : Nat) : bytesOf (s.extract 0 k) = (bytesOf s).take k := by
  unfold bytesOf
  rw [ByteArray.data_extract, Array.toList_extract, List.extract_eq_take_drop, List.map_take, List.drop_zero, Nat.sub_zero]
theorem bytesOf_get (s : ByteArray) (k : Nat) (h : k < s.size) : (bytesOf s).getD k 0 = s[k].toNat := by
  unfold bytesOf
  have h2 : k < s.data.toList.length := by simpa using h
  simp [List.getD, h]
  rfl
theorem extract_all (s : ByteArray) : s.extract 0 s.size = s := by simp
theorem uz_odd (y : Nat) (h : y % 2 = 1) : uz y = -1 - ((y / 2 : Nat) : Int) := if_pos h
theorem uz_even (y : Nat) (h : ¬ y % 2 = 1) : uz y = ((y / 2 : Nat) : Int) := if_neg h
theorem rdB_bad {L : List Nat} {er : Int} (least most : Int) (h : rd 0 0 L = (0, 0, er)) (he : er ≠ 0) : rdB least most L = (0, 0, er) := by
  unfold rdB
  rw [h]
  exact if_neg fun q => he q.1
theorem rdB_out {L : List Nat} {n : Int} {z : Nat} (least most : Int) (h : rd 0 0 L = (n, z, 0)) (hn : n < least ∨ most < n) : rdB least most L = (0, 0, 4) := by
  unfold rdB
  rw [h]
  exact if_pos ⟨rfl, hn⟩
theorem rdB_in {L : List Nat} {n : Int} {z : Nat} (least most : Int) (h : rd 0 0 L = (n, z, 0)) (hn : ¬ (n < least ∨ most < n)) : rdB least most L = (n, z, 0) := by
  unfold rdB
  rw [h]
  exact if_neg fun q => hn q.2
theorem add_step (x k c : Nat) (hk : k ≤ 9) (hx : x < 2 ^ (7 * k)) (h9 : k = 9 → c ≤ 1) : IntKind.u64.wrap ((x : Int) + IntKind.u64.wrap ((c : Int) % 128 * 2 ^ (7 * k))) = ((x + c % 128 * 2 ^ (7 * k) : Nat) : Int) := by
  have h := step_lt x k c hk hx h9
  have e1 : ((c : Int) % 128 * 2 ^ (7 * k)) = ((c % 128 * 2 ^ (7 * k) : Nat) : Int) := by push_cast; rfl
  rw [e1, IntKind.wrap_u64, IntKind.wrap_u64]
  generalize c % 128 * 2 ^ (7 * k) = z at *
  omega
theorem refInNum_err (g : Nat) (s : ByteArray) (err least most : Int) (he : err ≠ 0) (w : World) (hb : Hid (RBox w g s err)) :
    Calls Tryd.prog 41 #[.pointer (some ⟨g, 0, none⟩), .int .i64 least, .int .i64 most] w fun e w' => e = .returned (.int .i64 0) ∧ w = w' := by
  have hc1 := box_cell1 hb.out
  go_enter Tryd.func41, Tryd.ntmps41
  go_wp2
  go_ret
  exact ⟨rfl, rfl⟩
set_option maxRecDepth 20000 in
set_option maxHeartbeats 2000000 in
theorem refInNum_any (g : Nat) (s : ByteArray) (least most : Int) (hs : s.size ≤ 1000000) (w : World) (hb : Hid (RBox w g s 0)) :
    Calls Tryd.prog 41 #[.pointer (some ⟨g, 0, none⟩), .int .i64 least, .int .i64 most] w fun e w' => e = .returned (.int .i64 (rdB least most (bytesOf s)).1) ∧ RBox w' g (s.extract (rdB least most (bytesOf s)).2.1 s.size) (rdB least most (bytesOf s)).2.2 ∧ Only (· = g) w w' := by
  have hc0 := box_cell0 hb.out
  have hc1 := box_cell1 hb.out
  have hf0 := box_free (i := 0) hb.out
  have hf1 := box_free (i := 1) hb.out
  have HG := Lib.hid (fun _ : True => (hb.out : w.heap[g]? = _))
  have HLen := Lib.hid (fun _ : True => bytesOf_len s)
  have HGet := Lib.hid (fun k h => bytesOf_get s k h)
  obtain ⟨R, hR⟩ : ∃ R, rdB least most (bytesOf s) = R := ⟨_, rfl⟩
  have HB := Lib.hid (fun (er : Int) (h : rd 0 0 (bytesOf s) = (0, 0, er)) (he : er ≠ 0) => (hR.symm.trans (rdB_bad least most h he) : R = (0, 0, er)))
  have HO := Lib.hid (fun (n : Int) (z : Nat) (h : rd 0 0 (bytesOf s) = (n, z, 0)) (he : n < least ∨ most < n) => (hR.symm.trans (rdB_out least most h he) : R = (0, 0, 4)))
  have HI := Lib.hid (fun (n : Int) (z : Nat) (h : rd 0 0 (bytesOf s) = (n, z, 0)) (he : ¬ (n < least ∨ most < n)) => (hR.symm.trans (rdB_in least most h he) : R = (n, z, 0)))
  have HBad : Hid (∀ er : Int, R = (0, 0, er) → Ending.returned (.int .i64 0) = .returned (.int .i64 R.1) ∧ RBox (w.setCell ⟨g, 1, none⟩ (.int .i64 er)) g (s.extract R.2.1 s.size) R.2.2 ∧ Only (· = g) w (w.setCell ⟨g, 1, none⟩ (.int .i64 er))) := Lib.hid fun er h => by
    subst h
    exact ⟨rfl, by show RBox _ g (s.extract 0 s.size) er; rw [extract_all]; exact box_set1 (HG.out trivial) _, only_set (Only.refl _ _) _ _⟩
  rw [hR]
  clear hR
  go_enter Tryd.func41, Tryd.ntmps41
  go_wp2_with fail
  go_loop [7, 8] (fun u i => ∃ x k : Nat, u = .int .u64 (x : Int) ∧ i = .int .i64 (k : Int) ∧ k ≤ 9 ∧ k ≤ s.size ∧ Hid (True → x < 2 ^ (7 * k)) ∧ Hid (True → rd k x ((bytesOf s).drop k) = rd 0 0 (bytesOf s))) (fun _ i => 10 - (intOf i).toNat)
  case atStart => exact ⟨0, 0, rfl, rfl, by omega, by omega, Lib.hid fun _ => by decide, Lib.hid fun _ => by rw [List.drop_zero]⟩
  case round =>
    obtain ⟨x, k, rfl, rfl, hk9, hkn, hx, hr⟩ := hrel
    have hk10 : (k : Int) < 10 := by omega
    by_cases hk : k < s.size
    · obtain ⟨c, hcc, hc256⟩ : ∃ c, s[k].toNat = c ∧ c < 256 := ⟨_, rfl, s[k].toNat_lt⟩
      have HC := Lib.hid (fun _ : True => hcc)
      have hr2 : Hid (True → (if k = 9 ∧ 1 < c then (0, 0, 2) else if 128 ≤ c then rd (k + 1) (x + c % 128 * 2 ^ (7 * k)) ((bytesOf s).drop (k + 1)) else if c = 0 ∧ 0 < k then (0, 0, 2) else (uz (x + c % 128 * 2 ^ (7 * k)), k + 1, 0)) = rd 0 0 (bytesOf s)) :=
        Lib.hid fun _ => by have := hr.out trivial; rw [drop_get _ k (by rw [HLen.out trivial]; exact hk), HGet.out k hk, HC.out trivial] at this; exact this
      clear hr HC
      by_cases hA : k = 9 ∧ 1 < c
      · obtain ⟨hA1, hA2⟩ := hA
        subst hA1
        have hr3 := HBad.out 2 (HB.out 2 (by have := hr2.out trivial; rw [if_pos ⟨rfl, hA2⟩] at this; exact this.symm) (by decide))
        have hr3 := Lib.hid hr3
        clear hr2
        go_wp2_with fail
        go_ret
        exact hr3.out
      · have HA : Hid (True → k = 9 → c ≤ 1) := Lib.hid fun _ h => by omega
        have hadd := add_step x k c hk9 (hx.out trivial) (HA.out trivial)
        have hlt : x + c % 128 * 2 ^ (7 * k) < 18446744073709551616 := step_lt x k c hk9 (hx.out trivial) (HA.out trivial)
        have hlt2 : Hid (True → x + c % 128 * 2 ^ (7 * k) < 2 ^ (7 * (k + 1))) := Lib.hid fun _ => step_lt2 x k c (hx.out trivial)
        have hr3 := hr2.out trivial
        rw [if_neg hA] at hr3
        clear hr2
        generalize x + c % 128 * 2 ^ (7 * k) = y at *
        have HR := Lib.hid (fun _ : True => hr3)
        clear hr3
        obtain ⟨bb, hq, hb9⟩ : ∃ bb, ((k : Int) == 9) = bb ∧ (bb = true → ¬ 1 < c) := ⟨_, rfl, fun h => by have := HA.out trivial; have h2 : k = 9 := (by simp at h; omega); omega⟩
        cases bb
        case' true => have hc1 : ¬ 1 < c := hb9 rfl
        all_goals
          clear hb9
          by_cases hC : 128 ≤ c
          · have hk8 : k ≤ 8 := by
              have := HA.out trivial
              omega
            have hr4 : Hid (True → rd (k + 1) y ((bytesOf s).drop (k + 1)) = rd 0 0 (bytesOf s)) := Lib.hid fun _ => by have := HR.out trivial; rwa [if_pos hC] at this
            clear HR hA
            try (exfalso; omega)
            all_goals
              go_wp2_with fail
              go_round
              case rel => exact ⟨y, k + 1, rfl, by go_num, by omega, by omega, hlt2, hr4⟩
              case measure => simp [intOf]; omega
          · by_cases hD : c = 0 ∧ 0 < k
            · obtain ⟨hD1, hD2⟩ := hD
              have hr3 := Lib.hid (HBad.out 2 (HB.out 2 (by have := HR.out trivial; rw [if_neg hC, if_pos ⟨hD1, hD2⟩] at this; exact this.symm) (by decide)))
              subst hD1
              clear HR hA
              go_wp2_with fail
              all_goals
                go_ret
                exact hr3.out
            · have HR3 : Hid ((uz y, k + 1, 0) = rd 0 0 (bytesOf s)) := Lib.hid (by have := HR.out trivial; rwa [if_neg hC, if_neg hD] at this)
              clear HR
              obtain ⟨m, hm, hml⟩ : ∃ m, y / 2 = m ∧ m < 9223372036854775808 := ⟨_, rfl, by omega⟩
              have hdiv : (y : Int) / 2 = (m : Int) := by omega
              have hk1 : IntKind.i64.wrap ((k : Int) + 1) = ((k + 1 : Nat) : Int) := by rw [IntKind.wrap_i64]; omega
              have hk2 : (0 : Int) ≤ ((k + 1 : Nat) : Int) := by omega
              have hk3 : ((k + 1 : Nat) : Int) ≤ (s.size : Int) := by omega
              by_cases hkz : 0 < k
              case' pos =>
                have hcz : ¬ c = 0 := fun e => hD ⟨e, hkz⟩
              all_goals
                clear hD hA
                by_cases hp : y % 2 = 1
                · have hmod : (y : Int) % 2 = 1 := by omega
                  have hu : uz y = -1 - (m : Int) := by rw [uz_odd y hp, hm]
                  have HR4 : Hid (rd 0 0 (bytesOf s) = (-1 - (m : Int), k + 1, 0)) := Lib.hid (by have := HR3.out; rw [hu] at this; exact this.symm)
                  clear HR3 hu
                  by_cases hlo : -1 - (m : Int) < least
                  · have hr3 := Lib.hid (HBad.out 4 (HO.out _ _ HR4.out (.inl hlo)))
                    clear HR4
                    go_wp2_with fail
                    all_goals
                      go_ret
                      exact hr3.out
                  · by_cases hhi : most < -1 - (m : Int)
                    · have hr3 := Lib.hid (HBad.out 4 (HO.out _ _ HR4.out (.inr hhi)))
                      clear HR4
                      go_wp2_with fail
                      all_goals
                        go_ret
                        exact hr3.out
                    · have hr3 := Lib.hid (HI.out _ _ HR4.out (by omega))
                      clear HR4
                      go_wp2_with fail
                      all_goals
                        go_ret
                        rw [hr3.out]
                        exact ⟨rfl, box_set0 (HG.out trivial) _, only_set (Only.refl _ _) _ _⟩
                · have hmod : (y : Int) % 2 = 0 := by omega
                  have hu : uz y = (m : Int) := by rw [uz_even y hp, hm]
                  have HR4 : Hid (rd 0 0 (bytesOf s) = ((m : Int), k + 1, 0)) := Lib.hid (by have := HR3.out; rw [hu] at this; exact this.symm)
                  clear HR3 hu
                  by_cases hlo : (m : Int) < least
                  · have hr3 := Lib.hid (HBad.out 4 (HO.out _ _ HR4.out (.inl hlo)))
                    clear HR4
                    go_wp2_with fail
                    all_goals
                      go_ret
                      exact hr3.out
                  · by_cases hhi : most < (m : Int)
                    · have hr3 := Lib.hid (HBad.out 4 (HO.out _ _ HR4.out (.inr hhi)))
                      clear HR4
                      go_wp2_with fail
                      all_goals
                        go_ret
                        exact hr3.out
                    · have hr3 := Lib.hid (HI.out _ _ HR4.out (by omega))
                      clear HR4
                      go_wp2_with fail
                      all_goals
                        go_ret
                        rw [hr3.out]
                        exact ⟨rfl, box_set0 (HG.out trivial) _, only_set (Only.refl _ _) _ _⟩
    · have hr3 := Lib.hid (HBad.out 3 (HB.out 3 (by have := hr.out trivial; rw [List.drop_of_length_le (by rw [HLen.out trivial]; omega)] at this; exact this.symm) (by decide)))
      clear hr
      go_wp2_with fail
      go_ret
      exact hr3.out
set_option maxRecDepth 20000 in
theorem rdB_size (least most : Int) (L : List Nat) : (rdB least most L).2.1 ≤ L.length := by
  unfold rdB
  split
  · exact Nat.zero_le _
  · have := rd_size L 0 0; omega
/-- what is left of a text, and what was read, as texts -/
theorem sv_take (s : ByteArray) (n : Nat) : sv ((bytesOf s).take n) = s.extract 0 n := by rw [← bytesOf_take, sv_bytesOf]
end Go.Proofs.YtfhgdcljhncjmaaDoor.Fw
