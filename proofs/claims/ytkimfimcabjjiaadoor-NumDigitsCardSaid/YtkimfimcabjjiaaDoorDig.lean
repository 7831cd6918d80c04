/- The number that digits tell; contracts of Read, of the program and of the document. -/
import Derived.Test.YtkimfimcabjjiaaDoorBase
import Derived.Outline
namespace Go.Proofs.YtkimfimcabjjiaaDoor
open Go.ChangeShapes Go.WideShapes Go.ChangeAt Go.RowKit
set_option linter.unusedVariables false

/-- what digits tell -/
def val (l : List UInt8) : Nat := l.foldl (fun n c => n * 10 + (c.toNat - 48)) 0
theorem val_snoc (l : List UInt8) (c : UInt8) : val (l ++ [c]) = val l * 10 + (c.toNat - 48) := by unfold val; rw [List.foldl_append]; rfl
theorem fold_ge : ∀ (b : List UInt8) (n : Nat), n ≤ b.foldl (fun n c => n * 10 + (c.toNat - 48)) n
  | [], n => Nat.le_refl _
  | c :: t, n => Nat.le_trans (by omega) (fold_ge t (n * 10 + (c.toNat - 48)))
theorem val_ge (a b : List UInt8) : val a ≤ val (a ++ b) := by unfold val; rw [List.foldl_append]; exact fold_ge b _
theorem val_take_le (l : List UInt8) (k : Nat) : val (l.take k) ≤ val l := by
  have := val_ge (l.take k) (l.drop k)
  rwa [List.take_append_drop] at this
theorem val_step (l : List UInt8) (k : Nat) (h : k < l.length) : val (l.take (k + 1)) = val (l.take k) * 10 + (l[k].toNat - 48) := by
  rw [List.take_add_one, List.getElem?_eq_getElem h, Option.toList_some, val_snoc]
/-- what is read: the number, the error -/
def outD (neg : Bool) (ds : List UInt8) : Int × Int :=
  if digs ds = false then (0, 2) else if 4611686018427387904 < val ds ∨ (val ds = 4611686018427387904 ∧ neg = false) then (0, 4) else (if neg then -(val ds : Int) else (val ds : Int), 0)
theorem digs_all {ds : List UInt8} (h : digs ds = true) (k : Nat) (hk : k < ds.length) : 48 ≤ ds[k].toNat ∧ ds[k].toNat ≤ 57 := by
  unfold digs at h
  simp only [Bool.and_eq_true] at h
  have := List.all_eq_true.1 h.2 ds[k] (List.getElem_mem hk)
  unfold dgB at this
  simp at this
  exact this
theorem tdiv_low (c : Nat) (h1 : 48 ≤ c) (h2 : c ≤ 57) : (-4611686018427387904 + ((c : Int) - 48)).tdiv 10 = -((4611686018427387904 - ((c : Int) - 48)) / 10) := by
  have e : (-4611686018427387904 + ((c : Int) - 48)) = -(4611686018427387904 - ((c : Int) - 48)) := by omega
  rw [e, Int.neg_tdiv, Int.tdiv_eq_ediv_of_nonneg (by omega)]
set_option maxRecDepth 20000 in
set_option maxHeartbeats 2000000 in
theorem read_core (s0 s : ByteArray) (neg : Bool) (hs : s.size ≤ 2000) (w : World)
    (HC : Hid (Calls Tryd.prog 12 #[.string s0, .string { data := #[45] }] w fun e w' => e = .returned (.tuple #[.string s, .bool neg]) ∧ w = w')) :
    Calls Tryd.prog 5 #[.string s0] w fun e w' => e = .returned (.tuple #[.int .i64 (outD neg s.data.toList).1, .int .i64 (outD neg s.data.toList).2]) ∧ w = w' := by
  have HD := Lib.hid (isDigits_any s hs w)
  cases hd : digs s.data.toList
  · rw [hd] at HD
    have ho : outD neg s.data.toList = (0, 2) := if_pos hd
    rw [ho]
    clear ho hd
    go_enter Tryd.func5, Tryd.ntmps5
    go_wp2_with fail
    refine HC.out.mono ?_
    rintro e w' ⟨rfl, rfl⟩
    go_wp2_with fail
    refine HD.out.mono ?_
    rintro e w' ⟨rfl, rfl⟩
    go_wp2_with fail
    go_ret2
    exact ⟨rfl, rfl⟩
  · rw [hd] at HD
    have HA : Hid (∀ k (hk : k < s.size), 48 ≤ (s[k]).toNat ∧ (s[k]).toNat ≤ 57) := Lib.hid fun k hk => by
      have := digs_all hd k (by simpa using hk)
      rw [get_list s k hk]; exact this
    have HV : Hid (∀ k (hk : k < s.size), val (s.data.toList.take (k + 1)) = val (s.data.toList.take k) * 10 + ((s[k]).toNat - 48)) := Lib.hid fun k hk => by
      rw [val_step _ k (by simpa using hk), get_list s k hk]
    have HO : Hid (True → outD neg s.data.toList = if 4611686018427387904 < val s.data.toList ∨ (val s.data.toList = 4611686018427387904 ∧ neg = false) then (0, 4) else (if neg then -(val s.data.toList : Int) else (val s.data.toList : Int), 0)) := Lib.hid fun _ => if_neg (by rw [hd]; decide)
    clear hd
    go_enter Tryd.func5, Tryd.ntmps5
    go_wp2_with fail
    refine HC.out.mono ?_
    rintro e w' ⟨rfl, rfl⟩
    go_wp2_with fail
    refine HD.out.mono ?_
    rintro e w' ⟨rfl, rfl⟩
    go_wp2_with fail
    go_loop [6, 19] (fun n i => ∃ k m : Nat, i = .int .i64 (k : Int) ∧ n = .int .i64 (-(m : Int)) ∧ k ≤ s.size ∧ m ≤ 4611686018427387904 ∧ Hid (m = val (s.data.toList.take k))) (fun _ i => s.size - (intOf i).toNat)
    case atStart => exact ⟨0, 0, rfl, rfl, by omega, by omega, Lib.hid rfl⟩
    case round =>
      obtain ⟨k, m, rfl, rfl, hks, hm, hv⟩ := hrel
      by_cases hk : k < s.size
      · have hc := HA.out k hk
        have HS := Lib.hid (HV.out k hk)
        obtain ⟨c, hcc⟩ : ∃ c, (s[k]).toNat = c := ⟨_, rfl⟩
        rw [hcc] at hc
        obtain ⟨hc1, hc2⟩ := hc
        have hc1' : (48 : Int) ≤ (c : Int) := by omega
        have hc2' : (c : Int) ≤ 57 := by omega
        have hq := tdiv_low c hc1 hc2
        by_cases hbig : 4611686018427387904 < m * 10 + (c - 48)
        · have hT : -(m : Int) < (-4611686018427387904 + ((c : Int) - 48)).tdiv 10 := by rw [hq]; omega
          have HR : Hid (True → outD neg s.data.toList = (0, 4)) := Lib.hid fun _ => by
            rw [HO.out trivial]
            refine if_pos (.inl ?_)
            have h1 := HS.out
            rw [← hv.out, hcc] at h1
            have h2 := val_take_le s.data.toList (k + 1)
            omega
          clear hq
          go_wp2_with fail
          go_ret2
          exact ⟨by rw [HR.out trivial]; rfl, rfl⟩
        · have hT : (-4611686018427387904 + ((c : Int) - 48)).tdiv 10 ≤ -(m : Int) := by rw [hq]; omega
          have hT2 : ¬ -(m : Int) < (-4611686018427387904 + ((c : Int) - 48)).tdiv 10 := by omega
          have HN : Hid (True → -(m : Int) * 10 - ((c : Int) - 48) = -((m * 10 + (c - 48) : Nat) : Int)) := Lib.hid fun _ => by omega
          have HM : Hid (m * 10 + (c - 48) = val (s.data.toList.take (k + 1))) := Lib.hid (by rw [HS.out, ← hv.out, hcc])
          clear hq hv HS
          go_wp2_with fail
          go_round
          case rel => exact ⟨k + 1, m * 10 + (c - 48), by go_num, by rw [HN.out trivial], by omega, by omega, HM⟩
          case measure => simp [intOf]; omega
      · obtain rfl : k = s.size := by omega
        have HE : Hid (True → m = val s.data.toList) := Lib.hid fun _ => by
          have := hv.out
          rwa [List.take_of_length_le (by simp)] at this
        clear hv
        cases neg
        · by_cases hm2 : m = 4611686018427387904
          · subst hm2
            have HR : Hid (True → outD false s.data.toList = (0, 4)) := Lib.hid fun _ => by rw [HO.out trivial, if_pos (.inr ⟨(HE.out trivial).symm, rfl⟩)]
            go_wp2_with fail
            go_ret2
            exact ⟨by rw [HR.out trivial]; rfl, rfl⟩
          · have hne : (-(m : Int) == -4611686018427387904) = false := by simp; omega
            have HR : Hid (True → outD false s.data.toList = ((m : Int), 0)) := Lib.hid fun _ => by
              rw [HO.out trivial, ← HE.out trivial, if_neg (by omega)]; rfl
            go_wp2_with fail
            go_ret2
            exact ⟨by rw [HR.out trivial]; rfl, rfl⟩
        · have HR : Hid (True → outD true s.data.toList = (-(m : Int), 0)) := Lib.hid fun _ => by
            rw [HO.out trivial, ← HE.out trivial, if_neg (by rintro (h | ⟨_, h⟩); omega; cases h)]; rfl
          go_wp2_with fail
          go_ret2
          exact ⟨by rw [HR.out trivial]; rfl, rfl⟩
end Go.Proofs.YtkimfimcabjjiaaDoor
