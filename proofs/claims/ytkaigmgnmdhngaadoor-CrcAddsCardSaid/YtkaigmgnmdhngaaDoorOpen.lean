/- Contract of crc.Open. -/
import Derived.Test.YtkaigmgnmdhngaaDoorClose
namespace Go.Proofs.YtkaigmgnmdhngaaDoor
open Go.ChangeShapes Go.WideShapes Go.ChangeAt Go.RowKit Go.Joins

/-- the number of the first k of four bytes, the lowest first -/
def acc (D : List Nat) : Nat → Nat
  | 0 => 0
  | k + 1 => acc D k + D.getD k 0 * 2 ^ (8 * k)
theorem acc_lt (D : List Nat) (hB : ∀ b ∈ D, b < 256) : ∀ k, acc D k < 2 ^ (8 * k)
  | 0 => Nat.one_pos
  | k + 1 => by
    have h1 := acc_lt D hB k
    have h2 := getD_byte hB k
    show acc D k + D.getD k 0 * 2 ^ (8 * k) < _
    rw [show 8 * (k + 1) = 8 * k + 8 by omega, Nat.pow_add]
    have h3 : D.getD k 0 * 2 ^ (8 * k) ≤ 255 * 2 ^ (8 * k) := Nat.mul_le_mul_right _ (by omega)
    generalize 2 ^ (8 * k) = z at *
    omega
theorem or_low (x k d : Nat) (hx : x < 2 ^ (8 * k)) (hy : x + d * 2 ^ (8 * k) < 2 ^ 32) :
    bits .or .u32 (x : Int) ((d : Int) * 2 ^ (8 * k) % 4294967296) = ((x + d * 2 ^ (8 * k) : Nat) : Int) := by
  have e1 : ((d : Int) * 2 ^ (8 * k)) = ((d * 2 ^ (8 * k) : Nat) : Int) := by push_cast; rfl
  have e2 : ((d * 2 ^ (8 * k) : Nat) : Int) % 4294967296 = ((d * 2 ^ (8 * k) : Nat) : Int) := by
    generalize d * 2 ^ (8 * k) = z at *
    omega
  have e3 := u32_or_nat x (d * 2 ^ (8 * k)) (by omega) (by omega)
  rw [e1, e2, e3, Nat.or_comm, Nat.mul_comm d, ← Nat.two_pow_add_eq_or_of_lt hx, Nat.add_comm]
/-- is it the sum of what stands ahead of it? -/
def Opens (L : List Nat) : Prop := 4 ≤ L.length ∧ acc (L.drop (L.length - 4)) 4 = crcOf (L.take (L.length - 4))
set_option maxRecDepth 20000 in
set_option maxHeartbeats 2000000 in
theorem open_no (sp : Option Addr) (cap : Nat) (L : List Nat) (hL : L.length < 4) (w : World) :
    Calls Tryd.prog 14 #[.slice sp L.length cap] w fun e w' => e = .returned (.tuple #[.slice none 0 0, .bool false]) ∧ w = w' := by
  generalize L.length = n at *
  go_enter Tryd.func14, Tryd.ntmps14
  go_wp2
  go_ret2
  exact ⟨rfl, rfl⟩
set_option maxRecDepth 20000 in
set_option maxHeartbeats 2000000 in
theorem open_any (sp : Option Addr) (cap : Nat) (L : List Nat) (hn4 : 4 ≤ L.length) (hn : L.length ≤ 5000) (hcap : L.length ≤ cap) (hB : ∀ b ∈ L, b < 256) (w : World) (ht : Hid (Tab w)) (hS : Hid (Src w sp L)) :
    Calls Tryd.prog 14 #[.slice sp L.length cap] w fun e w' => Below w.heap.size w w' ∧ ((¬ Opens L ∧ e = .returned (.tuple #[.slice none 0 0, .bool false])) ∨ (Opens L ∧ ∃ g, e = .returned (.tuple #[.slice (some ⟨g, 0, none⟩) (L.length - 4) (L.length - 4), .bool true]) ∧ w.heap.size ≤ g ∧ w'.heap[g]? = some (.cells (cells (L.take (L.length - 4))).toArray 5 (0, 0)))) := by
  obtain ⟨g, o, rfl, hc⟩ := hS.out (by omega)
  have HO : Hid (True → (Opens L ↔ acc (L.drop (L.length - 4)) 4 = crcOf (L.take (L.length - 4)))) := Lib.hid fun _ => ⟨fun h => h.2, fun h => ⟨hn4, h⟩⟩
  obtain ⟨m, hm⟩ : ∃ m, L.length - 4 = m := ⟨_, rfl⟩
  obtain ⟨n, hL⟩ : ∃ n, L.length = n := ⟨_, rfl⟩
  have hnm : n = m + 4 := by omega
  subst hnm
  obtain ⟨M, hM⟩ : ∃ M, L.take m = M := ⟨_, rfl⟩
  obtain ⟨D, hD⟩ : ∃ D, L.drop m = D := ⟨_, rfl⟩
  have hMl : M.length = m := by rw [← hM, List.length_take]; omega
  have hBD : ∀ b ∈ D, b < 256 := by rw [← hD]; exact fun b hb => hB b (List.mem_of_mem_drop hb)
  have hBM : ∀ b ∈ M, b < 256 := by rw [← hM]; exact fun b hb => hB b (List.mem_of_mem_take hb)
  have hcell : ∀ k, k < 4 → w.cell? ⟨g, o + (m + k), none⟩ = some (.int .u8 ((D.getD k 0 : Nat) : Int)) := fun k hk => by
    rw [hc (m + k) (by omega), ← hD]
    simp [List.getD, List.getElem?_drop]
  have hSM : Src w (some ⟨g, o, none⟩) M := fun _ => ⟨g, o, rfl, fun i hi => by
    rw [hc i (by omega), ← hM]
    congr 2
    simp [List.getD, show i < m by omega]⟩
  obtain ⟨S, hSe⟩ : ∃ S, crcOf M = S := ⟨_, rfl⟩
  obtain ⟨T, hT⟩ : ∃ T, acc D 4 = T := ⟨_, rfl⟩
  have HS := Lib.hid (sum_one w w.heap.size rfl ht (some ⟨g, o, none⟩) cap m M hMl (by omega) hBM (Lib.hid hSM))
  rw [hm, hM, hD, hSe, hT] at HO
  rw [hSe] at HS
  rw [hL, show m + 4 - 4 = m by omega, hM]
  have HC := Lib.hid hcell
  have HA := Lib.hid (fun k => acc_lt D hBD k)
  have HD := Lib.hid (fun k => getD_byte hBD k)
  have HT := Lib.hid (fun _ : True => hT)
  have HML := Lib.hid (fun _ : True => hMl)
  have HSM := Lib.hid hSM
  rw [hL] at hn hcap
  clear hT hSe hcell hSM hBD hBM hMl hD hM hL hm hc hB hS hn4
  go_enter Tryd.func14, Tryd.ntmps14
  go_wp2_with fail
  go_loop [5, 14] (fun u i => ∃ x k : Nat, u = .int .u32 (x : Int) ∧ i = .int .i64 (k : Int) ∧ k ≤ 4 ∧ Hid (True → x = acc D k)) (fun _ i => 4 - (intOf i).toNat)
  case atStart => exact ⟨0, 0, rfl, rfl, by omega, Lib.hid fun _ => rfl⟩
  case round =>
    obtain ⟨x, k, rfl, rfl, hk4, hx⟩ := hrel
    by_cases hk : k < 4
    · have hc := HC.out k hk
      have hd := HD.out k
      obtain ⟨d, hdd⟩ : ∃ d, D.getD k 0 = d := ⟨_, rfl⟩
      rw [hdd] at hc hd
      have hlt : Hid (True → x + d * 2 ^ (8 * k) = acc D (k + 1) ∧ x + d * 2 ^ (8 * k) < 2 ^ (8 * (k + 1)) ∧ x < 2 ^ (8 * k)) := Lib.hid fun _ => by
        have e : x + d * 2 ^ (8 * k) = acc D (k + 1) := by rw [hx.out trivial, ← hdd]; rfl
        exact ⟨e, by rw [e]; exact HA.out (k + 1), by rw [hx.out trivial]; exact HA.out k⟩
      clear hdd hx
      go_wp2_with fail
      go_round
      case rel =>
        obtain ⟨h1, h2, h3⟩ := hlt.out trivial
        refine ⟨x + d * 2 ^ (8 * k), k + 1, ret_val (or_low x k d h3 (Nat.lt_of_lt_of_le h2 (Nat.pow_le_pow_right (by decide) (by omega)))), by go_num, by omega, Lib.hid fun _ => h1⟩
      case measure => simp [intOf]; omega
    · obtain rfl : k = 4 := by omega
      obtain rfl : x = T := by rw [← HT.out trivial]; exact hx.out trivial
      clear hx HT HC HA HD
      by_cases hTS : x = S
      · subst hTS
        have hmk : (Instr.makeSlice 22 (.int .i64 (m : Int)) (.int .i64 (m : Int))).run Tryd.prog (w.alloc (.cells #[.slice (some ⟨g, o, none⟩) m cap] 22)) = .ok (.slice (some ⟨w.heap.size + 1, 0, none⟩) m m) ((w.alloc (.cells #[.slice (some ⟨g, o, none⟩) m cap] 22)).alloc (.cells (cells (List.replicate m 0)).toArray 5)) := by
          have h := mk_bytes m (by omega) (w.alloc (.cells #[.slice (some ⟨g, o, none⟩) m cap] 22))
          rw [show (w.alloc (.cells #[.slice (some ⟨g, o, none⟩) m cap] 22)).heap.size = w.heap.size + 1 by simp] at h
          exact h
        obtain ⟨Z, hZ⟩ : ∃ Z, cells (List.replicate m 0) = Z := ⟨_, rfl⟩
        have HZ : Hid (True → cells (List.replicate m 0) = Z) := Lib.hid fun _ => hZ
        rw [hZ] at hmk
        clear hZ
        have hrow : Hid (True → ((w.alloc (.cells #[.slice (some ⟨g, o, none⟩) m cap] 22)).alloc (.cells Z.toArray 5)).heap[w.heap.size + 1]? = some (.cells Z.toArray 5 (0, 0))) := Lib.hid fun _ => by
          simp only [heap_alloc, Array.getElem?_push, Array.size_push]
          rw [if_pos trivial]
        have hsrc : Hid (Src ((w.alloc (.cells #[.slice (some ⟨g, o, none⟩) m cap] 22)).alloc (.cells Z.toArray 5)) (some ⟨g, o, none⟩) M) :=
          Lib.hid (src_later HSM.out (((Below.refl _ w).alloc (Nat.le_refl _) _).alloc (by simp) _))
        have hcl : Hid (True → (cells M).length = m) := Lib.hid fun _ => by rw [cells_len]; exact HML.out trivial
        have hzl : Hid (True → Z.length = m) := Lib.hid fun _ => by rw [← HZ.out trivial, cells_len, List.length_replicate]
        go_wp2_with fail
        refine HS.out.mono ?_
        rintro e w' ⟨rfl, rfl⟩
        go_wp2_with (refine wpList_copy_splice rfl (.tmp 39) (.tmp 40) 22 22 rfl 5 Tryd.underlying22 (by kernel_rfl) _ _ _ _ _ _ rfl rfl (w.heap.size + 1) 0 Z 5 (hrow.out trivial) (cells M) (by rw [hcl.out trivial]; exact (Nat.min_eq_right (by omega)).symm) (fun hp => ⟨rfl, src_pos hsrc.out hp⟩) (by rw [hcl.out trivial, hzl.out trivial]; omega) (cells_one M) w.heap.size w (((Below.refl _ w).alloc (Nat.le_refl _) _).alloc (by simp) _) (Nat.le_succ _) ?_; intro w2 HG2 hB2)
        have hg0 : w2.heap[w.heap.size + 1]? = some (.cells (cells M).toArray 5 (0, 0)) := by
          have h := HG2.out
          rw [← HZ.out trivial, splice_front, HML.out trivial, List.drop_replicate, Nat.sub_self, List.replicate_zero, List.append_nil] at h
          exact h
        go_wp2_with fail
        go_ret2
        exact ⟨hB2, .inr ⟨(HO.out trivial).2 (by trivial), _, rfl, Nat.le_succ _, hg0⟩⟩
      · have hne : ¬ (x : Int) = (S : Int) := by omega
        go_wp2_with fail
        refine HS.out.mono ?_
        rintro e w' ⟨rfl, rfl⟩
        go_wp2_with fail
        go_ret2
        exact ⟨(Below.refl _ w).alloc (Nat.le_refl _) _, .inl ⟨fun h => hTS ((HO.out trivial).1 h), rfl⟩⟩
end Go.Proofs.YtkaigmgnmdhngaaDoor
