/- The statements of package lex: a string, told by its bytes' digits. -/
import Derived.Test.YtfpjeokncdlofaaLexX
import Derived.Deep.QuietTactic
namespace Go.Proofs.Ytfpjeokncdlofaa
open Go.ChangeShapes Go.WideShapes Go.ChangeAt Go.RowKit Go.Joins
open Go.Proofs.Ytfpjeokncdlofaa.Fn (st st_size st_list st_extract)
set_option linter.unusedVariables false
set_option maxRecDepth 20000

/-- a digit of base 16 -/
def hexD (d : Nat) : UInt8 := if d < 10 then UInt8.ofNat (48 + d) else UInt8.ofNat (87 + d)
/-- a byte, told by its digits -/
def spB (b : UInt8) : List UInt8 := [92, 120, hexD (b.toNat / 16), hexD (b.toNat % 16)]
def spL (L : List UInt8) : List UInt8 := L.flatMap spB
theorem hexD_is (d : Nat) (h : d < 16) : hexN (hexD d).toNat = true ∧ hexV (hexD d).toNat = d ∧ hexD d ≠ 10 := by
  have key : ∀ d : Fin 16, hexN (hexD d).toNat = true ∧ hexV (hexD d).toNat = d ∧ hexD d ≠ 10 := by decide +kernel
  exact key ⟨d, h⟩
theorem spL_len : ∀ L : List UInt8, (spL L).length = 4 * L.length
  | [] => rfl
  | b :: L => by
    show (spB b ++ spL L).length = _
    rw [List.length_append, spL_len L, List.length_cons]
    show 4 + 4 * L.length = _
    omega
theorem escS_sp (b : UInt8) (r : List UInt8) (p : Nat × Nat) : escS (120 :: hexD (b.toNat / 16) :: hexD (b.toNat % 16) :: r) p = some (b.toNat, r, (p.1, p.2 + 3)) := by
  have hb := b.toNat_lt
  obtain ⟨h1, h2, h3⟩ := hexD_is (b.toNat / 16) (by omega)
  obtain ⟨k1, k2, k3⟩ := hexD_is (b.toNat % 16) (by omega)
  rw [escS, if_neg (by decide), if_neg (by decide), if_pos rfl, hexS, if_pos ⟨h1, k1⟩, h2, k2]
  have e1 : adv 120 p = (p.1, p.2 + 1) := if_neg (by decide)
  have e2 : ∀ q, adv (hexD (b.toNat / 16)) q = (q.1, q.2 + 1) := fun q => if_neg h3
  have e3 : ∀ q, adv (hexD (b.toNat % 16)) q = (q.1, q.2 + 1) := fun q => if_neg k3
  rw [e1, e2, e3]
  congr 1
  refine Prod.ext (by show 16 * (b.toNat / 16) + b.toNat % 16 = b.toNat; omega) rfl
theorem strS_sp (first : Nat × Nat) : ∀ (L : List UInt8) (m : Nat) (r : List UInt8) (p : Nat × Nat) (acc : List UInt8), strS first (L.length + m) (spL L ++ r) p acc = strS first m r (p.1, p.2 + 4 * L.length) (acc ++ L)
  | [], m, r, p, acc => by
    rw [List.append_nil]
    show strS first (0 + m) r p acc = _
    rw [Nat.zero_add]
    rfl
  | b :: L, m, r, p, acc => by
    have e : (b :: L).length + m = (L.length + m) + 1 := by rw [List.length_cons]; omega
    rw [e]
    show strS first (L.length + m + 1) (92 :: (120 :: hexD (b.toNat / 16) :: hexD (b.toNat % 16) :: (spL L ++ r))) p acc = _
    rw [strS, if_neg (by decide), if_pos ⟨rfl, by simp⟩, escS_sp]
    show strS first (L.length + m) (spL L ++ r) ((adv 92 p).1, (adv 92 p).2 + 3) (acc ++ [UInt8.ofNat b.toNat]) = _
    rw [strS_sp first L m r, UInt8.ofNat_toNat, List.append_assoc]
    have e1 : adv 92 p = (p.1, p.2 + 1) := if_neg (by decide)
    rw [e1]
    show strS first m r (p.1, p.2 + 1 + 3 + 4 * L.length) _ = strS first m r (p.1, p.2 + 4 * (L.length + 1)) _
    rw [show p.2 + 1 + 3 + 4 * L.length = p.2 + 4 * (L.length + 1) by omega]
    rfl
theorem tokS_sp (L : List UInt8) (p : Nat × Nat) : tokS (34 :: (spL L ++ [34])) p = if 4096 < L.length then .error p else .ok ((p, 4, 0, L), [], adv 34 ((adv 34 p).1, (adv 34 p).2 + 4 * L.length)) := by
  rw [tokS, if_neg (by decide), if_neg (by decide), if_pos rfl]
  have e : (spL L ++ [34]).length = L.length + (3 * L.length + 1) := by rw [List.length_append, spL_len]; simp; omega
  rw [e, strS_sp, strS, if_pos rfl, List.nil_append]
  by_cases h : 4096 < L.length
  · rw [if_pos h, if_pos h]
  · rw [if_neg h, if_neg h]
theorem tokS_spno (L : List UInt8) (p : Nat × Nat) : tokS (34 :: spL L) p = .error p := by
  rw [tokS, if_neg (by decide), if_neg (by decide), if_pos rfl]
  have e : (spL L).length = L.length + 3 * L.length := by rw [spL_len]; omega
  rw [e]
  have h := strS_sp p L (3 * L.length) [] (adv 34 p) []
  rw [List.append_nil] at h
  rw [h]
  cases 3 * L.length <;> rfl
theorem scan_string (m : Nat) (L : List UInt8) : scanL (List.replicate m 10 ++ (34 :: (spL L ++ [34]))) = some (if 4096 < L.length then .error (1 + m, 1) else .ok [((1 + m, 1), 4, 0, L)]) := by
  unfold scanL
  rw [skipB_lines, skipB_stay (by decide) (by decide)]
  obtain ⟨k, hk⟩ : ∃ k, (List.replicate m (10 : UInt8) ++ (34 :: (spL L ++ [34]))).length = k + 1 := ⟨m + (spL L ++ [34]).length, by simp; omega⟩
  rw [hk]
  have hw : (wordB (34 :: (spL L ++ [34])) (1 + m, 1)).1.length ≤ 6000 := by rw [wordB, if_neg (by decide)]; exact Nat.zero_le _
  have ht := tokS_sp L (1 + m, 1)
  by_cases h : 4096 < L.length
  · rw [if_pos h] at ht ⊢
    exact scanS_stop hw ht
  · rw [if_neg h] at ht ⊢
    refine (scanS_next hw ht).trans ?_
    exact scanS_nil _ _ _
theorem scan_stringno (m : Nat) (L : List UInt8) : scanL (List.replicate m 10 ++ [32] ++ (34 :: spL L)) = some (.error (1 + m, 2)) := by
  unfold scanL
  rw [List.append_assoc, skipB_lines]
  have e : skipB false ([32] ++ (34 :: spL L)) (1 + m, 1) = (34 :: spL L, (1 + m, 2)) := by
    show skipB false (32 :: (34 :: spL L)) (1 + m, 1) = _
    rw [skipB, if_pos (by decide)]
    exact skipB_stay (by decide) (by decide)
  rw [e]
  obtain ⟨k, hk⟩ : ∃ k, (List.replicate m (10 : UInt8) ++ ([32] ++ (34 :: spL L))).length = k + 1 := ⟨m + 1 + (spL L).length, by simp; omega⟩
  rw [hk]
  exact scanS_stop (by rw [wordB, if_neg (by decide)]; exact Nat.zero_le _) (tokS_spno L (1 + m, 2))
theorem spL_take (L : List UInt8) (j : Nat) (h : j < L.length) : spL (L.take (j + 1)) = spL (L.take j) ++ spB L[j] := by
  unfold spL
  rw [← List.take_append_getElem h, List.flatMap_append]
  simp
/-- a byte of a text -/
theorem idx_at (L : List UInt8) (j : Nat) (h : j < L.length) (W : World) : (Instr.index 9 (.string (st L)) (.int .i64 (j : Int))).run Try.prog W = .ok (.int .u8 ((L[j].toNat : Nat) : Int)) W := by
  rw [run_index_string W 9 (st L) .i64 (j : Int) Try.underlying9, dif_pos (by rw [st_size]; omega)]
  have e : (st L)[((j : Int)).toNat]'(by rw [st_size]; simpa using h) = L[j] := by
    simp [st]
    rfl
  exact congrArg (fun b : UInt8 => Result.ok (Value.int .u8 ((b.toNat : Nat) : Int)) W) e
theorem cut_digit (d : Nat) (h : d < 16) (W : World) : (Instr.slice 9 (.string ⟨#[48, 49, 50, 51, 52, 53, 54, 55, 56, 57, 97, 98, 99, 100, 101, 102]⟩) (some (.int .u8 (d : Int))) (some (.int .u8 ((d : Int) + 1))) none).run Try.prog W = .ok (.string (st [hexD d])) W := by
  have key : ∀ d : Fin 16, (⟨#[48, 49, 50, 51, 52, 53, 54, 55, 56, 57, 97, 98, 99, 100, 101, 102]⟩ : ByteArray).extract d (d + 1) = st [hexD d] := by decide +kernel
  have hs : (⟨#[48, 49, 50, 51, 52, 53, 54, 55, 56, 57, 97, 98, 99, 100, 101, 102]⟩ : ByteArray).size = 16 := rfl
  rw [run_slice_string W 9 _ .u8 .u8 (d : Int) ((d : Int) + 1) Try.underlying9 (by omega) (by omega) (by rw [hs]; omega)]
  have e := key ⟨d, h⟩
  rw [show ((d : Int)).toNat = d by omega, show ((d : Int) + 1).toNat = d + 1 by omega]
  exact congrArg (fun s => Result.ok (Value.string s) W) e
theorem below_drewN {B : Nat} {a w : World} (h : Below B a w) (k : Nat) : Below B a (w.drewN k) := ⟨h.os, h.tape, h.output, h.size, h.block⟩
set_option maxHeartbeats 4000000 in
theorem spell_text (L : List UInt8) (hL : L.length ≤ 4200) (a b n : Int) (w : World) :
    Calls Try.prog 15 #[.agg #[.int .i64 4, .int .i64 a, .int .i64 b, .int .i64 n, .string (st L)]] w fun e w' => e = .returned (.string (st (34 :: (spL L ++ [34])))) ∧ Hid (Below w.heap.size w w') := by
  obtain ⟨s, hs⟩ : ∃ s, st L = s := ⟨_, rfl⟩
  have hsz : s.size = L.length := by rw [← hs, st_size]
  rw [hs]
  have HS := Lib.hid (fun _ : True => hs)
  clear hs
  go_enter Try.func15, Try.ntmps15
  go_wp2_with fail
  generalize h1 : World.alloc w _ = w1
  have h9 : w1.heap[w.heap.size]? = some (.cells #[.int .i64 4, .int .i64 a, .int .i64 b, .int .i64 n, .string s] 44 (0, 0)) := by
    rw [← h1]; show (w.heap.push _)[w.heap.size]? = _; simp
  have HC : Hid (w1.cell? ⟨w.heap.size, 4, none⟩ = some (.string s)) := Lib.hid (by rw [cell_of_block h9]; rfl)
  have HB1 : Hid (Below w.heap.size w w1) := Lib.hid (by rw [← h1]; exact (Below.refl _ _).alloc (Nat.le_refl _) _)
  clear h1 h9
  go_loopw [4, 5] (fun u v wr => ∃ (j : Nat) (bs : List UInt8), j ≤ L.length ∧ u = .string (st bs) ∧ v = .int .i64 (j : Int) ∧ Hid (bs = 34 :: spL (L.take j)) ∧ Hid (wr.cell? ⟨w.heap.size, 4, none⟩ = some (.string s)) ∧ Hid (Below w.heap.size w wr)) (fun _ v _ => L.length - (intOf v).toNat)
  case atStart => exact ⟨0, [34], by omega, rfl, rfl, Lib.hid rfl, HC, HB1⟩
  case round =>
    obtain ⟨j, bs, hj, rfl, rfl, HBs, HCr, HBr⟩ := hrel
    have kc := HCr.out
    by_cases hjm : j < L.length
    · have hjI : (j : Int) < (L.length : Int) := by omega
      have hix := fun W => (show (Instr.index 9 (.string s) (.int .i64 (j : Int))).run Try.prog W = _ from HS.out trivial ▸ idx_at L j hjm W)
      have hlen : bs.length ≤ 16801 := by rw [HBs.out, List.length_cons, spL_len, List.length_take]; omega
      have hb := L[j].toNat_lt
      have HN : Hid (bs ++ [92, 120, hexD (L[j].toNat / 16), hexD (L[j].toNat % 16)] = 34 :: spL (L.take (j + 1))) := Lib.hid (by
        rw [HBs.out, spL_take L j hjm]
        simp [spB])
      obtain ⟨y, hy⟩ : ∃ y, L[j].toNat = y := ⟨_, rfl⟩
      rw [hy] at hix HN hb
      obtain ⟨d1, hd1⟩ : ∃ d, y / 16 = d := ⟨_, rfl⟩
      obtain ⟨d2, hd2⟩ : ∃ d, y % 16 = d := ⟨_, rfl⟩
      rw [hd1, hd2] at HN
      have hq : ((y : Int)).tdiv 16 = (d1 : Int) := by rw [Int.tdiv_eq_ediv_of_nonneg (by omega)]; omega
      have hr : ((y : Int)).tmod 16 = (d2 : Int) := by rw [Int.tmod_eq_emod_of_nonneg (by omega)]; omega
      have q1 : IntKind.u8.wrap (d1 : Int) = (d1 : Int) := by rw [IntKind.wrap_u8]; omega
      have q2 : IntKind.u8.wrap ((d1 : Int) + 1) = (d1 : Int) + 1 := by rw [IntKind.wrap_u8]; omega
      have q3 : IntKind.u8.wrap (d2 : Int) = (d2 : Int) := by rw [IntKind.wrap_u8]; omega
      have q4 : IntKind.u8.wrap ((d2 : Int) + 1) = (d2 : Int) + 1 := by rw [IntKind.wrap_u8]; omega
      have hs1 := cut_digit d1 (by omega)
      have hs2 := cut_digit d2 (by omega)
      have ha1 : ∀ w, (Op.stringOp .add (st bs) { data := #[92, 120] }).run Try.prog w = .ok (.string (st (bs ++ [92, 120]))) w := st_add bs [92, 120] (by simp; omega)
      have ha2 : ∀ w, (Op.stringOp .add (st (bs ++ [92, 120])) (st [hexD d1])).run Try.prog w = .ok (.string (st (bs ++ [92, 120, hexD d1]))) w := fun w => (st_add (bs ++ [92, 120]) [hexD d1] (by simp; omega) w).trans (by rw [List.append_assoc]; rfl)
      have ha3 : ∀ w, (Op.stringOp .add (st (bs ++ [92, 120, hexD d1])) (st [hexD d2])).run Try.prog w = .ok (.string (st (bs ++ [92, 120, hexD d1, hexD d2]))) w := fun w => (st_add (bs ++ [92, 120, hexD d1]) [hexD d2] (by simp; omega) w).trans (by rw [List.append_assoc]; rfl)
      clear hy hd1 hd2 hb hlen
      go_wp2_with fail
      go_quiet (fail)
      go_wp2_with fail
      go_roundw
      case rel => exact ⟨j + 1, bs ++ [92, 120, hexD d1, hexD d2], by omega, rfl, by go_num, HN, HCr, Lib.hid (below_drewN HBr.out _)⟩
      case measure => simp only [intOf]; omega
    · obtain rfl : j = L.length := by omega
      have hfin : ∀ w, (Op.stringOp .add (st bs) { data := #[34] }).run Try.prog w = .ok (.string (st (bs ++ [34]))) w := st_add bs [34] (by rw [HBs.out, List.length_cons, spL_len, List.length_take]; simp; omega)
      have HN : Hid (bs ++ [34] = 34 :: (spL L ++ [34])) := Lib.hid (by rw [HBs.out, List.take_length]; rfl)
      go_wp2_with fail
      go_ret
      exact ⟨by rw [← HN.out]; rfl, HBr⟩
end Go.Proofs.Ytfpjeokncdlofaa
