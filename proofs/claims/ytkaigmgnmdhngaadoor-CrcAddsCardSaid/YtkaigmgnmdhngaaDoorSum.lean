/- Contracts of crc.Sum; the document's own sum. -/
import Derived.Test.YtkaigmgnmdhngaaDoorMore
namespace Go.Proofs.YtkaigmgnmdhngaaDoor
open Go.ChangeShapes Go.WideShapes Go.ChangeAt Go.RowKit

theorem crcOf_nil : crcOf [] = 0 := rfl
theorem crcOf_le (L : List Nat) : crcOf L < 4294967296 := by unfold crcOf; omega
theorem crcOf_more (A B : List Nat) (hA : ∀ b ∈ A, b < 256) : 4294967295 - run (4294967295 - crcOf A) B = crcOf (A ++ B) := by
  have h := run_lt A 4294967295 (by decide) hA
  unfold crcOf
  rw [run_append]
  congr 2
  omega
/-- a part: where it lies, its room, its bytes -/
abbrev Part := Option Addr × Nat × List Nat
def Fits (ps : List Part) : Prop := ∀ p ∈ ps, p.2.2.length ≤ 1000000 ∧ ∀ b ∈ p.2.2, b < 256
def Parts (w : World) (g o : Nat) (ps : List Part) : Prop := ∀ (i : Nat) p, ps[i]? = some p → w.cell? ⟨g, o + i, none⟩ = some (.slice p.1 p.2.2.length p.2.1) ∧ Src w p.1 p.2.2
def all (ps : List Part) : List Nat := ps.flatMap fun p => p.2.2
theorem all_snoc (ps : List Part) (k : Nat) (p : Part) (h : ps[k]? = some p) : all (ps.take (k + 1)) = all (ps.take k) ++ p.2.2 := by
  unfold all
  rw [List.take_add_one, h]
  simp
theorem all_byte {ps : List Part} (h : Fits ps) (k : Nat) : ∀ b ∈ all (ps.take k), b < 256 := by
  intro b hb
  obtain ⟨p, hp, hbp⟩ := List.mem_flatMap.1 hb
  exact (h p (List.mem_of_mem_take hp)).2 b hbp
theorem more_at (s : Nat) (A L : List Nat) (hs : s = crcOf A) (hA : ∀ b ∈ A, b < 256) (sp : Option Addr) (cap : Nat) (hn : L.length ≤ 1000000) (hB : ∀ b ∈ L, b < 256) (w : World) (ht : Hid (Tab w)) (hc : Hid (Src w sp L)) :
    Calls Tryd.prog 12 #[.int .u32 (s : Int), .slice sp L.length cap] w fun e w' => e = .returned (.int .u32 ((crcOf (A ++ L) : Nat) : Int)) ∧ w = w' := by
  subst hs
  rw [← crcOf_more A L hA]
  exact more_any _ (crcOf_le A) sp cap L hn hB w ht hc
set_option maxRecDepth 20000 in
theorem sum_any (g o cap : Nat) (ps : List Part) (hn : ps.length ≤ 10) (hB : Fits ps) (w : World) (ht : Hid (Tab w)) (hc : Hid (Parts w g o ps)) :
    Calls Tryd.prog 11 #[.slice (some ⟨g, o, none⟩) ps.length cap] w fun e w' => e = .returned (.int .u32 ((crcOf (all ps) : Nat) : Int)) ∧ w = w' := by
  obtain ⟨n, hL⟩ : ∃ n, ps.length = n := ⟨_, rfl⟩
  have HL : Hid (True → ps.length = n) := Lib.hid fun _ => hL
  rw [hL] at hn ⊢
  clear hL
  go_enter Tryd.func11, Tryd.ntmps11
  go_wp2_with fail
  go_loop [3, 8] (fun r i => ∃ x k : Nat, r = .int .u32 (x : Int) ∧ i = .int .i64 (k : Int) ∧ k ≤ n ∧ Hid (True → x = crcOf (all (ps.take k)))) (fun _ i => n - (intOf i).toNat)
  case atStart => exact ⟨0, 0, rfl, rfl, by omega, Lib.hid fun _ => by rw [List.take_zero]; exact crcOf_nil.symm⟩
  case round =>
    obtain ⟨x, k, rfl, rfl, hkn, hx⟩ := hrel
    by_cases hk : k < n
    · obtain ⟨p, hp⟩ : ∃ p, ps[k]? = some p := ⟨_, List.getElem?_eq_getElem (by rw [HL.out trivial]; exact hk)⟩
      obtain ⟨hcell, hsrc'⟩ := hc.out k p hp
      have hsrc := Lib.hid hsrc'
      have hf := hB p (List.mem_of_getElem? hp)
      have HM := Lib.hid (fun W (hT : Hid (Tab W)) hS => more_at x (all (ps.take k)) p.2.2 (hx.out trivial) (all_byte hB k) p.1 p.2.1 hf.1 hf.2 W hT hS)
      rw [← all_snoc ps k p hp] at HM
      obtain ⟨v, hv⟩ : ∃ v, crcOf (all (ps.take (k + 1))) = v := ⟨_, rfl⟩
      have HV : Hid (True → v = crcOf (all (ps.take (k + 1)))) := Lib.hid fun _ => hv.symm
      rw [hv] at HM
      clear hv hsrc' hf hp hx
      go_wp2_with fail
      refine (HM.out _ ht hsrc).mono ?_
      rintro e w' ⟨rfl, rfl⟩
      go_wp2_with fail
      go_round
      case rel => exact ⟨v, k + 1, rfl, by go_num, by omega, HV⟩
      case measure => simp [intOf]; omega
    · have HX : Hid (True → x = crcOf (all ps)) := Lib.hid fun _ => by
        have e := hx.out trivial
        rwa [List.take_of_length_le (by rw [HL.out trivial]; omega)] at e
      clear hx
      go_wp2_with fail
      go_ret
      exact ⟨ret_int (by rw [HX.out trivial]), rfl⟩

/-- the document's bit, as it is told -/
theorem bit_step (y c j : Nat) (i : Nat) (hi : (y + c / 2 ^ j) % 2 = i) : bits .xor .u32 ((y : Int) % 2) (((c : Int) / 2 ^ j).tmod 2 % 4294967296) = (i : Int) := by
  have e1 : (c : Int) / 2 ^ j = ((c / 2 ^ j : Nat) : Int) := by push_cast; rfl
  rw [e1]
  generalize c / 2 ^ j = b at *
  rw [Int.tmod_eq_emod_of_nonneg (by omega), show (y : Int) % 2 = ((y % 2 : Nat) : Int) by omega, show ((b : Nat) : Int) % 2 % 4294967296 = ((b % 2 : Nat) : Int) by omega, u32_xor_nat (y % 2) (b % 2) (by omega) (by omega)]
  rcases Nat.mod_two_eq_zero_or_one y with h1 | h1 <;> rcases Nat.mod_two_eq_zero_or_one b with h2 | h2 <;> rw [h1, h2]
  · obtain rfl : i = 0 := by omega
    rfl
  · obtain rfl : i = 1 := by omega
    rfl
  · obtain rfl : i = 1 := by omega
    rfl
  · obtain rfl : i = 0 := by omega
    rfl
set_option maxRecDepth 20000 in
theorem refSum_any (s : ByteArray) (hs : s.size ≤ 100000) (w : World) :
    Calls Tryd.prog 9 #[.string s] w fun e w' => e = .returned (.int .u32 ((crcOf (s.data.toList.map fun b => b.toNat) : Nat) : Int)) ∧ w = w' := by
  obtain ⟨L, hLs⟩ : ∃ L : List Nat, (s.data.toList.map fun b => b.toNat) = L := ⟨_, rfl⟩
  rw [hLs]
  have hlen : L.length = s.size := by rw [← hLs]; simp
  have hB : ∀ b ∈ L, b < 256 := by rw [← hLs]; intro b hb; obtain ⟨u, _, rfl⟩ := List.mem_map.1 hb; exact u.toNat_lt
  have HB := Lib.hid hB
  have HL := Lib.hid (fun _ : True => hlen)
  have HS := Lib.hid (fun _ : True => hLs)
  clear hLs hlen hB
  go_enter Tryd.func9, Tryd.ntmps9
  go_wp2_with fail
  go_loop [3, 4] (fun r i => ∃ x k : Nat, r = .int .u32 (x : Int) ∧ i = .int .i64 (k : Int) ∧ k ≤ s.size ∧ x < 4294967296 ∧ Hid (True → x = run 4294967295 (L.take k))) (fun _ i => s.size - (intOf i).toNat)
  case atStart => exact ⟨4294967295, 0, rfl, rfl, by omega, by omega, Lib.hid fun _ => rfl⟩
  case round =>
    obtain ⟨x, k, rfl, rfl, hkn, hxl, hx⟩ := hrel
    by_cases hk : k < s.size
    · obtain ⟨c, hgc⟩ : ∃ c, s[k].toNat = c := ⟨_, rfl⟩
      have hc256 : c < 256 := by rw [← hgc]; exact (s[k]).toNat_lt
      have HC : Hid (True → L.getD k 0 = c) := Lib.hid fun _ => by
        rw [← HS.out trivial, ← hgc]
        simp [List.getD, hk, ByteArray.getElem_eq_getElem_data]
      go_wp2_with fail
      go_loop [3, 5] (fun r i => ∃ y j : Nat, r = .int .u32 (y : Int) ∧ i = .int .i64 (j : Int) ∧ j ≤ 8 ∧ y < 4294967296 ∧ Hid (True → y = rk x c j)) (fun _ i => 8 - (intOf i).toNat)
      case atStart => exact ⟨x, 0, rfl, rfl, by omega, hxl, Lib.hid fun _ => rfl⟩
      case round =>
        obtain ⟨y, j, rfl, rfl, hj8, hyl, hy⟩ := hrel
        by_cases hj : j < 8
        · by_cases hb : (y + c / 2 ^ j) % 2 = 1
          · have f1 : bits .xor .u32 ((y : Int) % 2) (((c : Int) / 2 ^ j).tmod 2 % 4294967296) = 1 := bit_step y c j 1 hb
            obtain ⟨z, hz, hzl⟩ : ∃ z, rk x c (j + 1) = z ∧ z < 4294967296 := ⟨_, rfl, rk_lt x c hxl _⟩
            have f2 : bits .xor .u32 ((y : Int) / 2) 2197175160 = (z : Int) := by
              rw [← hz]
              show _ = ((rb (rk x c j) (c / 2 ^ j) : Nat) : Int)
              rw [← hy.out trivial]
              unfold rb
              rw [if_pos hb, show (y : Int) / 2 = ((y / 2 : Nat) : Int) by omega]
              exact u32_xor_nat (y / 2) 2197175160 (by omega) (by decide)
            have HZ : Hid (True → z = rk x c (j + 1)) := Lib.hid fun _ => hz.symm
            clear hz hb hy
            go_wp2_with fail
            go_round
            case rel => exact ⟨z, j + 1, rfl, by go_num, by omega, hzl, HZ⟩
            case measure => simp [intOf]; omega
          · have f1 : bits .xor .u32 ((y : Int) % 2) (((c : Int) / 2 ^ j).tmod 2 % 4294967296) = 0 := bit_step y c j 0 (by omega)
            have HZ : Hid (True → y / 2 = rk x c (j + 1)) := Lib.hid fun _ => by
              show _ = rb (rk x c j) (c / 2 ^ j)
              rw [← hy.out trivial]
              unfold rb
              rw [if_neg hb]
            clear hb hy
            go_wp2_with fail
            go_round
            case rel => exact ⟨y / 2, j + 1, by go_num, by go_num, by omega, by omega, HZ⟩
            case measure => simp [intOf]; omega
        · have HY : Hid (True → y = run 4294967295 (L.take (k + 1))) := Lib.hid fun _ => by
            have e := hy.out trivial
            rw [show j = 8 by omega, rk_byte x c hc256] at e
            rw [take_succ_get L k (by rw [HL.out trivial]; exact hk), run_append, ← hx.out trivial, HC.out trivial, e]
            rfl
          clear hy hgc
          go_wp2_with fail
          go_round
          case rel => exact ⟨y, k + 1, rfl, by go_num, by omega, hyl, HY⟩
          case measure => simp [intOf]; omega
    · have HX : Hid (True → bits .xor .u32 IntKind.u32.max (x : Int) = ((crcOf L : Nat) : Int)) := Lib.hid fun _ => by
        have e := hx.out trivial
        rw [List.take_of_length_le (by rw [HL.out trivial]; omega)] at e
        rw [not_u32 x hxl, e]; rfl
      clear hx
      go_wp2_with fail
      go_ret
      exact ⟨ret_int (HX.out trivial), rfl⟩
end Go.Proofs.YtkaigmgnmdhngaaDoor
