/- Contracts of the document's Read; of both Reads at whatever bytes. -/
import Derived.Test.YtkimfimcabjjiaaDoorDig
namespace Go.Proofs.YtkimfimcabjjiaaDoor
open Go.ChangeShapes Go.WideShapes Go.ChangeAt Go.RowKit
set_option linter.unusedVariables false

/-- what stands at the loop's head: all digits so far; the number, or that it is too big -/
def Seen (ds : List UInt8) (k n : Nat) (big : Bool) : Prop := (∀ i (h : i < ds.length), i < k → dgB ds[i] = true) ∧ ((big = false ∧ n = val (ds.take k) ∧ n ≤ 4611686018427387904) ∨ (big = true ∧ 4611686018427387904 < val (ds.take k)))
theorem seen_bad {ds : List UInt8} {k n : Nat} {big : Bool} (hk : k < ds.length) (hc : dgB ds[k] = false) (neg : Bool) : outD neg ds = (0, 2) := by
  have : digs ds = false := by
    unfold digs
    have h2 : ds.all dgB = false := by
      rw [List.all_eq_false]
      exact ⟨ds[k], List.getElem_mem hk, by rw [hc]; decide⟩
    rw [h2, Bool.and_false]
  exact if_pos this
theorem seen_big {ds : List UInt8} {k n : Nat} {big : Bool} (h : Seen ds k n big) (hk : k < ds.length) (hc : dgB ds[k] = true) (hb : big = true ∨ 461168601842738790 < n) : Seen ds (k + 1) n true := by
  refine ⟨fun i hi hik => ?_, .inr ⟨rfl, ?_⟩⟩
  · by_cases e : i = k
    · subst e; exact hc
    · exact h.1 i hi (by omega)
  · rw [val_step ds k hk]
    rcases h.2 with ⟨hb1, hn, hle⟩ | ⟨_, hv⟩
    · rcases hb with hb | hb
      · rw [hb1] at hb; cases hb
      · omega
    · omega
theorem seen_next {ds : List UInt8} {k n : Nat} (h : Seen ds k n false) (hk : k < ds.length) (hc : dgB ds[k] = true) (hb : ¬ 461168601842738790 < n) : Seen ds (k + 1) (n * 10 + (ds[k].toNat - 48)) (decide (4611686018427387904 < n * 10 + (ds[k].toNat - 48))) := by
  refine ⟨fun i hi hik => ?_, ?_⟩
  · by_cases e : i = k
    · subst e; exact hc
    · exact h.1 i hi (by omega)
  · have hn : n = val (ds.take k) := by
      rcases h.2 with ⟨_, hn, _⟩ | ⟨hb, _⟩
      · exact hn
      · cases hb
    rw [val_step ds k hk, ← hn]
    by_cases hd : 4611686018427387904 < n * 10 + (ds[k].toNat - 48)
    · exact .inr ⟨by simp [hd], hd⟩
    · exact .inl ⟨by simp [hd], rfl, by omega⟩
theorem seen_digs {ds : List UInt8} {n : Nat} {big : Bool} (h : Seen ds ds.length n big) (hp : 0 < ds.length) : digs ds = true := by
  unfold digs
  have h2 : ds.all dgB = true := List.all_eq_true.2 fun c hc => by
    obtain ⟨i, hi, rfl⟩ := List.getElem_of_mem hc
    exact h.1 i hi hi
  rw [h2, Bool.and_true]
  cases ds with
  | nil => simp at hp
  | cons c t => rfl
theorem seen_end {ds : List UInt8} {n : Nat} {big : Bool} (h : Seen ds ds.length n big) (hp : 0 < ds.length) (neg : Bool) : (big = true → outD neg ds = (0, 4)) ∧ (big = false → n ≤ 4611686018427387904 ∧ ((n = 4611686018427387904 ∧ neg = false → outD neg ds = (0, 4)) ∧ (¬ (n = 4611686018427387904 ∧ neg = false) → outD neg ds = (if neg then -(n : Int) else (n : Int), 0)))) := by
  have ho : outD neg ds = if 4611686018427387904 < val ds ∨ (val ds = 4611686018427387904 ∧ neg = false) then (0, 4) else (if neg then -(val ds : Int) else (val ds : Int), 0) := if_neg (by rw [seen_digs h hp]; decide)
  have h2 := h.2
  rw [List.take_length] at h2
  refine ⟨fun hb => ?_, fun hb => ?_⟩
  · rcases h2 with ⟨h3, _⟩ | ⟨_, h3⟩
    · rw [hb] at h3; cases h3
    · rw [ho, if_pos (.inl h3)]
  · rcases h2 with ⟨_, rfl, hle⟩ | ⟨h3, _⟩
    · refine ⟨hle, fun h4 => by rw [ho, if_pos (.inr h4)], fun h4 => by rw [ho, if_neg (by rintro (h5 | h5); omega; exact h4 h5)]⟩
    · rw [hb] at h3; cases h3
theorem dg_of (c : UInt8) : (dgB c = true ↔ 48 ≤ c.toNat ∧ c.toNat ≤ 57) := by unfold dgB; simp
set_option maxRecDepth 20000 in
set_option maxHeartbeats 4000000 in
theorem refRead_neg (s : ByteArray) (ds : List UInt8) (hs : s.size = ds.length + 1) (hp : 0 < ds.length) (hl : s.size ≤ 2000) (h0s : 0 < s.size) (hb0 : ((s[0].toNat : Int) == 45) = true) (HD : Hid (∀ j (h : j < s.size) (h2 : j - 1 < ds.length), 1 ≤ j → s[j] = ds[j - 1])) (w : World) :
    Calls Tryd.prog 6 #[.string s] w fun e w' => e = .returned (.tuple #[.int .i64 (outD true ds).1, .int .i64 (outD true ds).2]) ∧ w = w' := by
  have Hs : Hid (True → s.size = ds.length + 1) := Lib.hid fun _ => hs
  have Hp := Lib.hid hp
  have hz : ((1 : Int) == (s.size : Int)) = false := by simp; omega
  have hgt : decide ((0 : Int) < (s.size : Int)) = true := decide_eq_true (by omega)
  have hz2 : 1 < s.size := by omega
  clear hs hp
  go_enter Tryd.func6, Tryd.ntmps6
  go_wp2_with fail
  go_loop [5, 6, 7] (fun i n b => ∃ (j m : Nat) (big : Bool), i = .int .i64 (j : Int) ∧ n = .int .u64 (m : Int) ∧ b = .bool big ∧ 1 ≤ j ∧ j ≤ s.size ∧ m ≤ 4611686018427387913 ∧ Hid (Seen ds (j - 1) m big)) (fun i _ _ => s.size - (intOf i).toNat)
  case atStart => exact ⟨1, 0, false, rfl, rfl, rfl, by omega, by omega, by omega, Lib.hid ⟨fun i _ h => absurd h (by omega), .inl ⟨rfl, rfl, by omega⟩⟩⟩
  case round =>
    obtain ⟨j, m, big, rfl, rfl, rfl, hj1, hj2, hm, hS⟩ := hrel
    by_cases hj : j < s.size
    · have hjd : Hid (j - 1 < ds.length) := Lib.hid (by have := Hs.out trivial; omega)
      have hcd := HD.out j hj hjd.out hj1
      obtain ⟨c, hcc⟩ : ∃ c, (s[j]).toNat = c := ⟨_, rfl⟩
      have hcd' : Hid ((ds[j - 1]'hjd.out).toNat = c) := Lib.hid (by rw [← hcd]; exact hcc)
      clear hcd
      by_cases hd : 48 ≤ c ∧ c ≤ 57
      · have hdg : Hid (dgB (ds[j - 1]'hjd.out) = true) := Lib.hid ((dg_of _).2 (by rw [hcd'.out]; exact hd))
        obtain ⟨hd1, hd2⟩ := hd
        have e1 : decide ((c : Int) < 48) = false := decide_eq_false (by omega)
        have e2 : decide ((57 : Int) < (c : Int)) = false := decide_eq_false (by omega)
        have d1 : (48 : Int) ≤ (c : Int) := by omega
        have d2 : (c : Int) ≤ 57 := by omega
        by_cases hb : big = true ∨ 461168601842738790 < m
        · have HN := Lib.hid (seen_big hS.out hjd.out hdg.out hb)
          rcases hb with rfl | hb
          · clear hS
            go_wp2_with fail
            go_round
            case rel => exact ⟨j + 1, m, true, by go_num, rfl, rfl, by omega, by omega, hm, Lib.hid (by have := HN.out; rwa [show j - 1 + 1 = j + 1 - 1 by omega] at this)⟩
            case measure => simp [intOf]; omega
          · have e3 : decide ((461168601842738790 : Int) < (m : Int)) = true := decide_eq_true (by omega)
            clear hS
            cases big <;>
            · go_wp2_with fail
              go_round
              case rel => exact ⟨j + 1, m, true, by go_num, rfl, rfl, by omega, by omega, hm, Lib.hid (by have := HN.out; rwa [show j - 1 + 1 = j + 1 - 1 by omega] at this)⟩
              case measure => simp [intOf]; omega
        · obtain ⟨hb1, hb2⟩ : big = false ∧ ¬ 461168601842738790 < m := ⟨by cases big with | false => rfl | true => exact absurd (.inl rfl) hb, fun h => hb (.inr h)⟩
          subst hb1
          have HN := Lib.hid (seen_next hS.out hjd.out hdg.out hb2)
          have e3 : decide ((461168601842738790 : Int) < (m : Int)) = false := decide_eq_false (by omega)
          have e4 : (m : Int) ≤ 461168601842738790 := by omega
          have HV : Hid (True → (m : Int) * 10 + ((c : Int) - 48) = ((m * 10 + ((ds[j - 1]'hjd.out).toNat - 48) : Nat) : Int)) := Lib.hid fun _ => by rw [hcd'.out]; omega
          have HC : Hid (m * 10 + ((ds[j - 1]'hjd.out).toNat - 48) ≤ 4611686018427387913) := Lib.hid (by rw [hcd'.out]; omega)
          clear hS hb
          go_wp2_with fail
          go_round
          case rel =>
            rw [HV.out trivial]
            refine ⟨j + 1, _, _, by go_num, rfl, ?_, by omega, by omega, HC.out, Lib.hid (by have := HN.out; rwa [show j - 1 + 1 = j + 1 - 1 by omega] at this)⟩
            rw [Value.bool.injEq, decide_eq_decide]
            omega
          case measure => simp [intOf]; omega
      · have HR : Hid (True → outD true ds = (0, 2)) := Lib.hid fun _ => seen_bad (n := m) (big := big) hjd.out (by
          cases h : dgB (ds[j - 1]'hjd.out) with
          | false => rfl
          | true => exact absurd ((dg_of _).1 h) (by rw [hcd'.out]; exact hd)) true
        by_cases hlo : c < 48
        · have e1 : decide ((c : Int) < 48) = true := decide_eq_true (by omega)
          clear hS hd
          go_wp2_with fail
          go_ret2
          exact ⟨by rw [HR.out trivial]; rfl, rfl⟩
        · have e1 : decide ((c : Int) < 48) = false := decide_eq_false (by omega)
          have e2 : decide ((57 : Int) < (c : Int)) = true := decide_eq_true (by omega)
          clear hS hd
          go_wp2_with fail
          go_ret2
          exact ⟨by rw [HR.out trivial]; rfl, rfl⟩
    · obtain rfl : j = s.size := by omega
      have hO := seen_end (n := m) (big := big) (by have := hS.out; rwa [show s.size - 1 = ds.length by have := Hs.out trivial; omega] at this) Hp.out true
      clear hS
      cases big
      · have hle := (hO.2 rfl).1
        have HR : Hid (True → outD true ds = (-(m : Int), 0)) := Lib.hid fun _ => (hO.2 rfl).2.2 (fun h => by cases h.2)
        clear hO
        by_cases hm : m = 4611686018427387904
        · subst hm
          go_wp2_with fail
          go_ret2
          exact ⟨by rw [HR.out trivial]; rfl, rfl⟩
        · have hm2 : ((m : Int) == 4611686018427387904) = false := by simp; omega
          go_wp2_with fail
          go_ret2
          exact ⟨by rw [HR.out trivial]; rfl, rfl⟩
      · have HR : Hid (True → outD true ds = (0, 4)) := Lib.hid fun _ => hO.1 rfl
        clear hO
        go_wp2_with fail
        go_ret2
        exact ⟨by rw [HR.out trivial]; rfl, rfl⟩
set_option maxRecDepth 20000 in
set_option maxHeartbeats 4000000 in
theorem refRead_pos (s : ByteArray) (ds : List UInt8) (hs : s.size = ds.length) (hp : 0 < ds.length) (hl : s.size ≤ 2000) (h0s : 0 < s.size) (hb0 : ((s[0].toNat : Int) == 45) = false) (HD : Hid (∀ j (h : j < s.size) (h2 : j < ds.length), 0 ≤ j → s[j] = ds[j])) (w : World) :
    Calls Tryd.prog 6 #[.string s] w fun e w' => e = .returned (.tuple #[.int .i64 (outD false ds).1, .int .i64 (outD false ds).2]) ∧ w = w' := by
  have Hs : Hid (True → s.size = ds.length) := Lib.hid fun _ => hs
  have Hp := Lib.hid hp
  have hz : ((0 : Int) == (s.size : Int)) = false := by simp; omega
  have hgt : decide ((0 : Int) < (s.size : Int)) = true := decide_eq_true (by omega)
  have hz2 : 0 < s.size := by omega
  clear hs hp
  go_enter Tryd.func6, Tryd.ntmps6
  go_wp2_with fail
  go_loop [5, 6, 7] (fun i n b => ∃ (j m : Nat) (big : Bool), i = .int .i64 (j : Int) ∧ n = .int .u64 (m : Int) ∧ b = .bool big ∧ 0 ≤ j ∧ j ≤ s.size ∧ m ≤ 4611686018427387913 ∧ Hid (Seen ds (j) m big)) (fun i _ _ => s.size - (intOf i).toNat)
  case atStart => exact ⟨0, 0, false, rfl, rfl, rfl, by omega, by omega, by omega, Lib.hid ⟨fun i _ h => absurd h (by omega), .inl ⟨rfl, rfl, by omega⟩⟩⟩
  case round =>
    obtain ⟨j, m, big, rfl, rfl, rfl, hj1, hj2, hm, hS⟩ := hrel
    by_cases hj : j < s.size
    · have hjd : Hid (j < ds.length) := Lib.hid (by have := Hs.out trivial; omega)
      have hcd := HD.out j hj hjd.out hj1
      obtain ⟨c, hcc⟩ : ∃ c, (s[j]).toNat = c := ⟨_, rfl⟩
      have hcd' : Hid ((ds[j]'hjd.out).toNat = c) := Lib.hid (by rw [← hcd]; exact hcc)
      clear hcd
      by_cases hd : 48 ≤ c ∧ c ≤ 57
      · have hdg : Hid (dgB (ds[j]'hjd.out) = true) := Lib.hid ((dg_of _).2 (by rw [hcd'.out]; exact hd))
        obtain ⟨hd1, hd2⟩ := hd
        have e1 : decide ((c : Int) < 48) = false := decide_eq_false (by omega)
        have e2 : decide ((57 : Int) < (c : Int)) = false := decide_eq_false (by omega)
        have d1 : (48 : Int) ≤ (c : Int) := by omega
        have d2 : (c : Int) ≤ 57 := by omega
        by_cases hb : big = true ∨ 461168601842738790 < m
        · have HN := Lib.hid (seen_big hS.out hjd.out hdg.out hb)
          rcases hb with rfl | hb
          · clear hS
            go_wp2_with fail
            go_round
            case rel => exact ⟨j + 1, m, true, by go_num, rfl, rfl, by omega, by omega, hm, Lib.hid (by have := HN.out; rwa [show j + 1 = j + 1 by omega] at this)⟩
            case measure => simp [intOf]; omega
          · have e3 : decide ((461168601842738790 : Int) < (m : Int)) = true := decide_eq_true (by omega)
            clear hS
            cases big <;>
            · go_wp2_with fail
              go_round
              case rel => exact ⟨j + 1, m, true, by go_num, rfl, rfl, by omega, by omega, hm, Lib.hid (by have := HN.out; rwa [show j + 1 = j + 1 by omega] at this)⟩
              case measure => simp [intOf]; omega
        · obtain ⟨hb1, hb2⟩ : big = false ∧ ¬ 461168601842738790 < m := ⟨by cases big with | false => rfl | true => exact absurd (.inl rfl) hb, fun h => hb (.inr h)⟩
          subst hb1
          have HN := Lib.hid (seen_next hS.out hjd.out hdg.out hb2)
          have e3 : decide ((461168601842738790 : Int) < (m : Int)) = false := decide_eq_false (by omega)
          have e4 : (m : Int) ≤ 461168601842738790 := by omega
          have HV : Hid (True → (m : Int) * 10 + ((c : Int) - 48) = ((m * 10 + ((ds[j]'hjd.out).toNat - 48) : Nat) : Int)) := Lib.hid fun _ => by rw [hcd'.out]; omega
          have HC : Hid (m * 10 + ((ds[j]'hjd.out).toNat - 48) ≤ 4611686018427387913) := Lib.hid (by rw [hcd'.out]; omega)
          clear hS hb
          go_wp2_with fail
          go_round
          case rel =>
            rw [HV.out trivial]
            refine ⟨j + 1, _, _, by go_num, rfl, ?_, by omega, by omega, HC.out, Lib.hid (by have := HN.out; rwa [show j + 1 = j + 1 by omega] at this)⟩
            rw [Value.bool.injEq, decide_eq_decide]
            omega
          case measure => simp [intOf]; omega
      · have HR : Hid (True → outD false ds = (0, 2)) := Lib.hid fun _ => seen_bad (n := m) (big := big) hjd.out (by
          cases h : dgB (ds[j]'hjd.out) with
          | false => rfl
          | true => exact absurd ((dg_of _).1 h) (by rw [hcd'.out]; exact hd)) false
        by_cases hlo : c < 48
        · have e1 : decide ((c : Int) < 48) = true := decide_eq_true (by omega)
          clear hS hd
          go_wp2_with fail
          go_ret2
          exact ⟨by rw [HR.out trivial]; rfl, rfl⟩
        · have e1 : decide ((c : Int) < 48) = false := decide_eq_false (by omega)
          have e2 : decide ((57 : Int) < (c : Int)) = true := decide_eq_true (by omega)
          clear hS hd
          go_wp2_with fail
          go_ret2
          exact ⟨by rw [HR.out trivial]; rfl, rfl⟩
    · obtain rfl : j = s.size := by omega
      have hO := seen_end (n := m) (big := big) (by have := hS.out; rwa [show s.size = ds.length by have := Hs.out trivial; omega] at this) Hp.out false
      clear hS
      cases big
      · have hle := (hO.2 rfl).1
        by_cases hm : m = 4611686018427387904
        · subst hm
          have HR : Hid (True → outD false ds = (0, 4)) := Lib.hid fun _ => (hO.2 rfl).2.1 ⟨rfl, rfl⟩
          clear hO
          go_wp2_with fail
          go_ret2
          exact ⟨by rw [HR.out trivial]; rfl, rfl⟩
        · have hm2 : ((m : Int) == 4611686018427387904) = false := by simp; omega
          have HR : Hid (True → outD false ds = ((m : Int), 0)) := Lib.hid fun _ => (hO.2 rfl).2.2 (fun h => hm h.1)
          clear hO
          go_wp2_with fail
          go_ret2
          exact ⟨by rw [HR.out trivial]; rfl, rfl⟩
      · have HR : Hid (True → outD false ds = (0, 4)) := Lib.hid fun _ => hO.1 rfl
        clear hO
        go_wp2_with fail
        go_ret2
        exact ⟨by rw [HR.out trivial]; rfl, rfl⟩
end Go.Proofs.YtkimfimcabjjiaaDoor
