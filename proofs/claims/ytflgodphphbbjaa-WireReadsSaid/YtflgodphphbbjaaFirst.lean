/- Contracts of the reading side's plain functions: unfold, first. -/
import Derived.Test.YtflgodphphbbjaaSizes
import Derived.Laws.DeepNot64
namespace Go.Proofs.Ytflgodphphbbjaa
open Go.ChangeShapes Go.WideShapes Go.ChangeAt Go.RowKit Go.Lib

/-- a folded number's number -/
def uz (x : Nat) : Int := if x % 2 = 1 then -1 - ((x / 2 : Nat) : Int) else ((x / 2 : Nat) : Int)
theorem uz_zz (n : Int) : uz (zz n) = n := by unfold uz zz; split <;> split <;> omega
theorem zz_uz (x : Nat) : zz (uz x) = x := by unfold uz zz; split <;> split <;> omega
theorem uz_lo (x : Nat) (h : x < 18446744073709551616) : -9223372036854775808 ≤ uz x := by unfold uz; split <;> omega
theorem uz_hi (x : Nat) (h : x < 18446744073709551616) : uz x ≤ 9223372036854775807 := by unfold uz; split <;> omega

theorem unfold_any (x : Nat) (hx : x < 18446744073709551616) (w : World) : Calls Try.prog 26 #[.int .u64 (x : Int)] w fun e w' => e = .returned (.int .i64 (uz x)) ∧ w = w' := by
  have e1 : bits .and .u64 (x : Int) 1 = ((x % 2 : Nat) : Int) := by
    have := u64_and_nat x 1 hx (by decide)
    rw [nat_mask1] at this
    exact this
  have HX := Lib.hid hx
  by_cases h : x % 2 = 1
  · have e2 : bits .and .u64 (x : Int) 1 = 1 := by rw [e1, h]; rfl
    clear e1
    go_enter Try.func26, Try.ntmps26
    go_wp2
    go_ret
    exact ⟨ret_int (by rw [show ((x:Int)/2) = ((x / 2 : Nat) : Int) by omega, i64_not _ (by omega)]; unfold uz; split <;> omega), rfl⟩
  · have e2 : bits .and .u64 (x : Int) 1 = 0 := by rw [e1, show x % 2 = 0 by omega]; rfl
    clear e1
    go_enter Try.func26, Try.ntmps26
    go_wp2
    go_ret
    exact ⟨ret_int (by unfold uz; rw [if_neg h]; omega), rfl⟩

/-- the number at the front: what was read of it, its bytes' count, the error -/
def rd : Nat → Nat → List Nat → Int × Nat × Int
  | _, _, [] => (0, 0, 3)
  | k, u, c :: t => if k = 9 ∧ 1 < c then (0, 0, 2) else if 128 ≤ c then rd (k + 1) (u + c % 128 * 2 ^ (7 * k)) t else if c = 0 ∧ 0 < k then (0, 0, 2) else (uz (u + c % 128 * 2 ^ (7 * k)), k + 1, 0)

/-- bytes in memory -/
def At (w : World) (g o : Nat) (L : List Nat) : Prop := ∀ i, i < L.length → w.cell? ⟨g, o + i, none⟩ = some (.int .u8 ((L.getD i 0 : Nat) : Int))
theorem drop_get (L : List Nat) (k : Nat) (h : k < L.length) : L.drop k = L.getD k 0 :: L.drop (k + 1) := by
  rw [List.drop_eq_getElem_cons h]; simp [List.getD, h]
theorem getD_byte {L : List Nat} (hB : ∀ b ∈ L, b < 256) (k : Nat) : L.getD k 0 < 256 := by
  by_cases h : k < L.length
  · have e : L.getD k 0 = L[k] := by simp [List.getD, h]
    rw [e]; exact hB _ (List.getElem_mem h)
  · have e : L.getD k 0 = 0 := by simp [List.getD, h]
    omega

theorem or_low (x k d : Nat) (hx : x < 2 ^ (7 * k)) (hy : x + d * 2 ^ (7 * k) < 2 ^ 64) :
    bits .or .u64 (x : Int) (IntKind.u64.wrap ((d : Int) * 2 ^ (7 * k))) = ((x + d * 2 ^ (7 * k) : Nat) : Int) := by
  have e1 : ((d : Int) * 2 ^ (7 * k)) = ((d * 2 ^ (7 * k) : Nat) : Int) := by push_cast; rfl
  have e2 : IntKind.u64.wrap ((d * 2 ^ (7 * k) : Nat) : Int) = ((d * 2 ^ (7 * k) : Nat) : Int) := by
    rw [IntKind.wrap_u64]
    generalize d * 2 ^ (7 * k) = z at *
    omega
  have e3 := u64_or_nat x (d * 2 ^ (7 * k)) (by omega) (by omega)
  rw [e1, e2, e3, Nat.or_comm, Nat.mul_comm d, ← Nat.two_pow_add_eq_or_of_lt hx, Nat.add_comm]
theorem and127 (c : Nat) (hc : c < 256) : bits .and .u8 (c : Int) 127 = ((c % 128 : Nat) : Int) := by
  have key : ∀ y : Fin 256, bits .and .u8 ((y.val : Nat) : Int) 127 = ((y.val % 128 : Nat) : Int) := by decide +kernel
  exact key ⟨c, hc⟩
theorem step_lt (x k c : Nat) (hk : k ≤ 9) (hx : x < 2 ^ (7 * k)) (h9 : k = 9 → c ≤ 1) : x + c % 128 * 2 ^ (7 * k) < 2 ^ 64 := by
  by_cases h : k = 9
  · subst h
    have := h9 rfl
    have : c % 128 ≤ 1 := by omega
    have : c % 128 * 2 ^ (7 * 9) ≤ 1 * 2 ^ (7 * 9) := Nat.mul_le_mul_right _ this
    omega
  · have h1 : c % 128 ≤ 127 := by omega
    have h2 : c % 128 * 2 ^ (7 * k) ≤ 127 * 2 ^ (7 * k) := Nat.mul_le_mul_right _ h1
    have h3 : 2 ^ (7 * k) ≤ 2 ^ 56 := Nat.pow_le_pow_right (by decide) (by omega)
    generalize 2 ^ (7 * k) = z at *
    omega
theorem step_lt2 (x k c : Nat) (hx : x < 2 ^ (7 * k)) : x + c % 128 * 2 ^ (7 * k) < 2 ^ (7 * (k + 1)) := by
  have h1 : c % 128 ≤ 127 := by omega
  have h2 : c % 128 * 2 ^ (7 * k) ≤ 127 * 2 ^ (7 * k) := Nat.mul_le_mul_right _ h1
  rw [show 7 * (k + 1) = 7 * k + 7 by omega, Nat.pow_add]
  generalize 2 ^ (7 * k) = z at *
  omega
theorem or_step (x k c : Nat) (hc : c < 256) (hk : k ≤ 9) (hx : x < 2 ^ (7 * k)) (h9 : k = 9 → c ≤ 1) :
    bits .or .u64 (x : Int) (IntKind.u64.wrap (IntKind.u64.wrap (bits .and .u8 (c : Int) 127) * 2 ^ (7 * k))) = ((x + c % 128 * 2 ^ (7 * k) : Nat) : Int) := by
  rw [and127 c hc, show IntKind.u64.wrap ((c % 128 : Nat) : Int) = ((c % 128 : Nat) : Int) by rw [IntKind.wrap_u64]; omega]
  exact or_low x k (c % 128) hx (step_lt x k c hk hx h9)
theorem unfold_at (v : Int) (x : Nat) (e : v = (x : Int)) (hx : x < 18446744073709551616) (w : World) : Calls Try.prog 26 #[.int .u64 v] w fun e w' => e = .returned (.int .i64 (uz x)) ∧ w = w' := by
  subst e; exact unfold_any x hx w

def rdV (r : Int × Nat × Int) : Value := .tuple #[.int .i64 r.1, .int .i64 (r.2.1 : Int), .int .i64 r.2.2]
set_option maxRecDepth 20000 in
set_option maxHeartbeats 1000000 in
theorem first_any (g o cap : Nat) (L : List Nat) (hn : L.length ≤ 1000000) (hB : ∀ b ∈ L, b < 256) (w : World) (hc : Hid (At w g o L)) :
    Calls Try.prog 25 #[.slice (some ⟨g, o, none⟩) L.length cap] w fun e w' => e = .returned (rdV (rd 0 0 L)) ∧ w = w' := by
  obtain ⟨n, hL⟩ : ∃ n, L.length = n := ⟨_, rfl⟩
  have HL : Hid (True → L.length = n) := Lib.hid fun _ => hL
  rw [hL] at hn ⊢
  clear hL
  generalize hR : rd 0 0 L = R
  have HR : Hid (True → rd 0 0 L = R) := Lib.hid fun _ => hR
  clear hR
  go_enter Try.func25, Try.ntmps25
  go_wp2_with fail
  go_loop [5, 10] (fun u i => ∃ x k : Nat, u = .int .u64 (x : Int) ∧ i = .int .i64 (k : Int) ∧ k ≤ n ∧ k ≤ 9 ∧ Hid (True → x < 2 ^ (7 * k)) ∧ Hid (True → rd k x (L.drop k) = R)) (fun _ i => n - (intOf i).toNat)
  case atStart => exact ⟨0, 0, rfl, rfl, by omega, by omega, Lib.hid fun _ => by decide, Lib.hid fun _ => by rw [List.drop_zero]; exact HR.out trivial⟩
  case round =>
    obtain ⟨x, k, rfl, rfl, hkn, hk9, hx, hr⟩ := hrel
    by_cases hk : k < n
    · obtain ⟨c, hcc⟩ : ∃ c, L.getD k 0 = c := ⟨_, rfl⟩
      have hcell : w.cell? ⟨g, o + k, none⟩ = some (.int .u8 (c : Int)) := by rw [← hcc]; exact hc.out k (by rw [HL.out trivial]; exact hk)
      have hc256 : c < 256 := by rw [← hcc]; exact getD_byte hB k
      have hr2 : Hid (True → (if k = 9 ∧ 1 < c then (0, 0, 2) else if 128 ≤ c then rd (k + 1) (x + c % 128 * 2 ^ (7 * k)) (L.drop (k + 1)) else if c = 0 ∧ 0 < k then (0, 0, 2) else (uz (x + c % 128 * 2 ^ (7 * k)), k + 1, 0)) = R) :=
        Lib.hid fun _ => by have := hr.out trivial; rw [drop_get L k (by rw [HL.out trivial]; exact hk), hcc] at this; exact this
      clear hr hcc
      by_cases hA : k = 9 ∧ 1 < c
      · obtain ⟨hA1, hA2⟩ := hA
        subst hA1
        have hr3 : Hid (True → ((0, 0, 2) : Int × Nat × Int) = R) := Lib.hid fun _ => by have := hr2.out trivial; rwa [if_pos ⟨rfl, hA2⟩] at this
        clear hr2
        go_wp2_with fail
        go_ret3
        rw [← hr3.out trivial]
        exact ⟨rfl, rfl⟩
      · have HA : Hid (True → k = 9 → c ≤ 1) := Lib.hid fun _ h => by omega
        have hs : Hid (True → ∀ i : Int, i = 2 ^ (7 * k) → bits .or .u64 (x : Int) (IntKind.u64.wrap (IntKind.u64.wrap (bits .and .u8 (c : Int) 127) * i)) = ((x + c % 128 * 2 ^ (7 * k) : Nat) : Int)) :=
          Lib.hid fun _ i hi => by rw [hi]; exact or_step x k c hc256 hk9 (hx.out trivial) (HA.out trivial)
        have hlt : Hid (True → x + c % 128 * 2 ^ (7 * k) < 18446744073709551616) := Lib.hid fun _ => step_lt x k c hk9 (hx.out trivial) (HA.out trivial)
        have hr3 : Hid (True → (if 128 ≤ c then rd (k + 1) (x + c % 128 * 2 ^ (7 * k)) (L.drop (k + 1)) else if c = 0 ∧ 0 < k then (0, 0, 2) else (uz (x + c % 128 * 2 ^ (7 * k)), k + 1, 0)) = R) := Lib.hid fun _ => by have := hr2.out trivial; rwa [if_neg hA] at this
        clear hr2
        by_cases hC : 128 ≤ c
        · have hk8 : k ≤ 8 := by omega
          have hr4 : Hid (True → rd (k + 1) (x + c % 128 * 2 ^ (7 * k)) (L.drop (k + 1)) = R) := Lib.hid fun _ => by have := hr3.out trivial; rwa [if_pos hC] at this
          clear hr3 hA
          go_wp2_with fail
          go_round
          case rel => exact ⟨x + c % 128 * 2 ^ (7 * k), k + 1, ret_val (hs.out trivial _ rfl), by go_num, by omega, by omega, Lib.hid fun _ => step_lt2 x k c (hx.out trivial), hr4⟩
          case measure => simp [intOf]; omega
        · by_cases hD : c = 0 ∧ 0 < k
          · obtain ⟨hD1, hD2⟩ := hD
            subst hD1
            have hr4 : Hid (True → ((0, 0, 2) : Int × Nat × Int) = R) := Lib.hid fun _ => by have := hr3.out trivial; rwa [if_neg hC, if_pos ⟨rfl, hD2⟩] at this
            clear hr3 hA
            by_cases h9 : k = 9
            · subst h9
              go_wp2_with fail
              go_ret3
              rw [← hr4.out trivial]
              exact ⟨rfl, rfl⟩
            · go_wp2_with fail
              go_ret3
              rw [← hr4.out trivial]
              exact ⟨rfl, rfl⟩
          · have hr4 : Hid (True → ((uz (x + c % 128 * 2 ^ (7 * k)), k + 1, 0) : Int × Nat × Int) = R) := Lib.hid fun _ => by have := hr3.out trivial; rwa [if_neg hC, if_neg hD] at this
            clear hr3 hA
            by_cases h9 : k = 9
            · subst h9
              have hc0 : ¬ c = 0 := by omega
              clear hD
              have hc1 : c ≤ 1 := HA.out trivial rfl
              go_wp2_with fail
              refine (unfold_at _ (x + c % 128 * 2 ^ (7 * 9)) (hs.out trivial _ (by decide)) (hlt.out trivial) _).mono ?_
              rintro e w' ⟨rfl, rfl⟩
              go_wp2_with fail
              go_ret3
              rw [← hr4.out trivial]
              exact ⟨rfl, rfl⟩
            · by_cases hc0 : c = 0
              · have hk0 : k = 0 := by omega
                subst hk0
                subst hc0
                clear hD
                have hcell0 : w.cell? ⟨g, o, none⟩ = some (.int .u8 0) := hcell
                clear hcell
                obtain rfl : x = 0 := by have := hx.out trivial; omega
                go_wp2_with fail
                refine (unfold_at _ 0 ?_ (by decide) _).mono ?_
                · decide
                rintro e w' ⟨rfl, rfl⟩
                go_wp2_with fail
                go_ret3
                rw [← hr4.out trivial]
                exact ⟨rfl, rfl⟩
              · clear hD
                go_wp2_with fail
                refine (unfold_at _ (x + c % 128 * 2 ^ (7 * k)) (hs.out trivial _ rfl) (hlt.out trivial) _).mono ?_
                rintro e w' ⟨rfl, rfl⟩
                go_wp2_with fail
                go_ret3
                rw [← hr4.out trivial]
                exact ⟨rfl, rfl⟩
    · have hr2 : Hid (True → ((0, 0, 3) : Int × Nat × Int) = R) := Lib.hid fun _ => by have := hr.out trivial; rw [List.drop_of_length_le (by rw [HL.out trivial]; omega)] at this; exact this
      clear hr
      go_wp2_with fail
      go_ret3
      rw [← hr2.out trivial]
      exact ⟨rfl, rfl⟩
end Go.Proofs.Ytflgodphphbbjaa
