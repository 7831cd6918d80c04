/- Contracts of the reading side: Open, Err, Left, (*In).Num. No condition but that the bytes are few. -/
import Derived.Test.YtflgodphphbbjaaFirst
import Derived.Laws.MakeOwn
import Derived.Laws.CopyOwn
namespace Go.Proofs.Ytflgodphphbbjaa
open Go.ChangeShapes Go.WideShapes Go.ChangeAt Go.RowKit Go.Lib

/-- a reader in memory: block g, what is left, its first error -/
def Box (w : World) (g : Nat) (L : List Nat) (err : Int) : Prop :=
  ∃ h o cap, w.heap[g]? = some (.cells #[.slice (some ⟨h, o, none⟩) L.length cap, .int .i64 err] 52 (0, 0)) ∧ L.length ≤ cap ∧ h ≠ g ∧ At w h o L
theorem box_cell0 {w : World} {g : Nat} {v e : Value} {t : TypeId} (h : w.heap[g]? = some (.cells #[v, e] t (0, 0))) : w.cell? ⟨g, 0, none⟩ = some v := by simp [World.cell?, h]
theorem box_cell1 {w : World} {g : Nat} {v e : Value} {t : TypeId} (h : w.heap[g]? = some (.cells #[v, e] t (0, 0))) : w.cell? ⟨g, 1, none⟩ = some e := by simp [World.cell?, h]
theorem box_free {w : World} {g i : Nat} {v e : Value} {t : TypeId} (h : w.heap[g]? = some (.cells #[v, e] t (0, 0))) : w.frozen? ⟨g, i, none⟩ = false := by simp [World.frozen?, h]

theorem mk_bytes (n : Nat) (hn : n ≤ 1000000) (w : World) : ∃ Z : List Value, Z.length = n ∧ (Instr.makeSlice 23 (.int .i64 (n : Int)) (.int .i64 (n : Int))).run Try.prog w = .ok (.slice (some ⟨w.heap.size, 0, none⟩) n n) (w.alloc (.cells Z.toArray 5)) := by
  obtain ⟨i0, hi, hz0, hz1, hz2⟩ := info_parts info8
  have h := run_makeSlice (P := Try.prog) w 23 5 i0 (.int .u8 0) Try.underlying23 hi hz0 .i64 .i64 (n : Int) (n : Int) (by omega) (Int.le_refl _) (by rw [hz1]; simp; omega) (by rw [hz2]; omega) (by omega)
  rw [hz1] at h
  simp only [Int.toNat_natCast, Nat.mul_one] at h
  exact ⟨(madeCells (Value.int IntKind.u8 0).cells n).toList, by rw [Array.length_toList, size_madeCells], by rw [h]⟩

theorem splice_all (Z cs : List Value) (h : cs.length = Z.length) : splice Z 0 cs = cs := by
  unfold splice
  rw [List.take_zero, List.nil_append, Nat.zero_add, h, List.drop_length, List.append_nil]
theorem at_of_row {w : World} {g : Nat} {L : List Nat} {t : TypeId} (h : w.heap[g]? = some (.cells (cells L).toArray t (0, 0))) : At w g 0 L := by
  intro i hi
  have : w.cell? ⟨g, 0 + i, none⟩ = (cells L).toArray[i]? := by simp [World.cell?, h]
  rw [this]
  simp [cells, List.getD, hi]
theorem cells_one (L : List Nat) : ∀ v ∈ cells L, v.oneCell' = true := by
  intro v hv
  obtain ⟨b, _, rfl⟩ := List.mem_map.1 hv
  rfl
theorem cells_len (L : List Nat) : (cells L).length = L.length := by simp [cells]

/-- bytes to be read: whatever slice -/
def Src (w : World) (sp : Option Addr) (L : List Nat) : Prop := 0 < L.length → ∃ ad, sp = some ad ∧ ∀ i, i < L.length → w.cell? (ad.add i) = some (.int .u8 ((L.getD i 0 : Nat) : Int))
theorem src_pos {w : World} {sp : Option Addr} {L : List Nat} (h : Src w sp L) {o : Obj} : 0 < (cells L).length → ∃ ad, sp = some ad ∧ ∀ j v, (cells L)[j]? = some v → (w.alloc o).cell? (ad.add j) = some v := by
  intro hp
  rw [cells_len] at hp
  obtain ⟨ad, rfl, hc⟩ := h hp
  refine ⟨ad, rfl, fun j v hj => ?_⟩
  have hjl : j < L.length := by
    have := (List.getElem?_eq_some_iff.1 hj).1
    rwa [cells_len] at this
  have e : v = .int .u8 ((L.getD j 0 : Nat) : Int) := by
    simp [cells, hjl] at hj
    rw [← hj]; simp [List.getD, hjl]
  rw [e]
  exact (World.cell?_alloc_old w o _ (Nat.ne_of_lt (World.block_lt_of_cell? w _ (hc j hjl)))).trans (hc j hjl)
set_option maxRecDepth 20000 in
theorem open_any (sp : Option Addr) (cap : Nat) (L : List Nat) (hn : L.length ≤ 1000000) (w : World) (hs : Hid (Src w sp L)) :
    Calls Try.prog 20 #[.slice sp L.length cap] w fun e w' => ∃ g, e = .returned (.pointer (some ⟨g, 0, none⟩)) ∧ w.heap.size ≤ g ∧ Box w' g L 0 ∧ Below w.heap.size w w' := by
  obtain ⟨Z, hZ, hmk⟩ := mk_bytes L.length hn w
  have HZ := Lib.hid (fun _ : True => hZ)
  clear hZ
  go_enter Try.func20, Try.ntmps20
  go_wp2_with (refine wpList_copy_splice rfl (.tmp 7) (.tmp 8) 23 23 rfl 5 Try.underlying23 (by kernel_rfl) _ _ _ _ _ _ rfl rfl w.heap.size 0 Z 5 Array.getElem?_push_size (cells L) (by rw [cells_len]; simp) (fun hp => ⟨rfl, src_pos hs.out hp⟩) (by rw [cells_len, HZ.out trivial]; omega) (cells_one L) w.heap.size w ((Below.refl _ _).alloc (Nat.le_refl _) _) (Nat.le_refl _) ?_; intro w2 HG2 hB2)
  have hlt : w.heap.size < w2.heap.size := by
    rcases Nat.lt_or_ge w.heap.size w2.heap.size with h | h
    · exact h
    · have := HG2.out; rw [Array.getElem?_eq_none h] at this; cases this
  have hrow := HG2.out
  rw [splice_all Z (cells L) (by rw [cells_len, HZ.out trivial])] at hrow
  clear HG2
  go_ret
  refine ⟨_, rfl, hB2.size, ⟨w.heap.size, 0, L.length, Array.getElem?_push_size, Nat.le_refl _, Nat.ne_of_lt hlt, fun i hi => ?_⟩, hB2.alloc hB2.size _⟩
  have hc := at_of_row hrow i hi
  exact (World.cell?_alloc_old w2 _ _ (Nat.ne_of_lt (World.block_lt_of_cell? w2 _ hc))).trans hc

set_option maxRecDepth 20000 in
theorem err_any (g : Nat) (L : List Nat) (err : Int) (w : World) (hb : Hid (Box w g L err)) :
    Calls Try.prog 16 #[.pointer (some ⟨g, 0, none⟩)] w fun e w' => e = .returned (.int .i64 err) ∧ w = w' := by
  obtain ⟨h, o, cap, hg, _⟩ := hb.out
  have hc := box_cell1 hg
  clear hg
  go_enter Try.func16, Try.ntmps16
  go_wp2
  go_ret
  exact ⟨rfl, rfl⟩
set_option maxRecDepth 20000 in
theorem left_any (g : Nat) (L : List Nat) (err : Int) (w : World) (hb : Hid (Box w g L err)) :
    Calls Try.prog 18 #[.pointer (some ⟨g, 0, none⟩)] w fun e w' => e = .returned (.int .i64 (L.length : Int)) ∧ w = w' := by
  obtain ⟨h, o, cap, hg, _⟩ := hb.out
  have hc := box_cell0 hg
  clear hg
  go_enter Try.func18, Try.ntmps18
  go_wp2
  go_ret
  exact ⟨rfl, rfl⟩

/-- the next number between two -/
def rdB (least most : Int) (L : List Nat) : Int × Nat × Int := if (rd 0 0 L).2.2 = 0 ∧ ((rd 0 0 L).1 < least ∨ most < (rd 0 0 L).1) then (0, 0, 4) else rd 0 0 L
theorem rd_size : ∀ (L : List Nat) (k u : Nat), (rd k u L).2.1 ≤ k + L.length
  | [], _, _ => Nat.zero_le _
  | c :: t, k, u => by
    unfold rd
    have ih := rd_size t (k + 1) (u + c % 128 * 2 ^ (7 * k))
    rw [List.length_cons]
    split
    · exact Nat.zero_le _
    · split
      · omega
      · split
        · exact Nat.zero_le _
        · show k + 1 ≤ _; omega
theorem rd_err : ∀ (L : List Nat) (k u : Nat), (rd k u L).2.2 ≠ 0 → (rd k u L).1 = 0 ∧ (rd k u L).2.1 = 0
  | [], _, _ => fun _ => ⟨rfl, rfl⟩
  | c :: t, k, u => by
    unfold rd
    have ih := rd_err t (k + 1) (u + c % 128 * 2 ^ (7 * k))
    split
    · intro _; exact ⟨rfl, rfl⟩
    · split
      · exact ih
      · split
        · intro _; exact ⟨rfl, rfl⟩
        · intro h; exact absurd rfl h
theorem box_set0 {w : World} {g : Nat} {v e : Value} {t : TypeId} (h : w.heap[g]? = some (.cells #[v, e] t (0, 0))) (u : Value) : (w.setCell ⟨g, 0, none⟩ u).heap[g]? = some (.cells #[u, e] t (0, 0)) := by
  simp [World.setCell, Array.getElem?_modify, h]
theorem box_set1 {w : World} {g : Nat} {v e : Value} {t : TypeId} (h : w.heap[g]? = some (.cells #[v, e] t (0, 0))) (u : Value) : (w.setCell ⟨g, 1, none⟩ u).heap[g]? = some (.cells #[v, u] t (0, 0)) := by
  simp [World.setCell, Array.getElem?_modify, h]
theorem at_set {w : World} {hh oo : Nat} {L : List Nat} (h : At w hh oo L) (g i : Nat) (hne : hh ≠ g) (u : Value) : At (w.setCell ⟨g, i, none⟩ u) hh oo L := fun j hj => by
  have e : (w.setCell ⟨g, i, none⟩ u).cell? ⟨hh, oo + j, none⟩ = w.cell? ⟨hh, oo + j, none⟩ := by simp [World.cell?, Below.heap_setCell w ⟨g, i, none⟩ u hh hne]
  rw [e]; exact h j hj
theorem at_drop {w : World} {hh oo : Nat} {L : List Nat} (h : At w hh oo L) (n : Nat) : At w hh (oo + n) (L.drop n) := fun j hj => by
  have hl : n + j < L.length := by rw [List.length_drop] at hj; omega
  have := h (n + j) hl
  rw [← Nat.add_assoc] at this
  rw [this]
  simp [List.getD, List.getElem?_drop]
theorem below_set (w : World) (g i : Nat) (u : Value) : Below g w (w.setCell ⟨g, i, none⟩ u) := (Below.refl g w).setCell (p := ⟨g, i, none⟩) (Nat.le_refl g) u
theorem at_nil {w : World} {hh oo : Nat} {L : List Nat} (h : L.length = 0) : At w hh oo L := fun j hj => by omega
set_option maxRecDepth 20000 in
set_option maxHeartbeats 1500000 in
theorem inNum_any (g : Nat) (L : List Nat) (least most : Int) (hn : L.length ≤ 1000000) (hB : ∀ b ∈ L, b < 256) (w : World) (hb : Hid (Box w g L 0)) :
    Calls Try.prog 15 #[.pointer (some ⟨g, 0, none⟩), .int .i64 least, .int .i64 most] w fun e w' => e = .returned (.int .i64 (rdB least most L).1) ∧ Box w' g (L.drop (rdB least most L).2.1) (rdB least most L).2.2 ∧ Below g w w' := by
  obtain ⟨hh, oo, cap, hg, hcap, hne, hat⟩ := hb.out
  have hc0 := box_cell0 hg
  have hc1 := box_cell1 hg
  have hf0 := box_free (i := 0) hg
  have hf1 := box_free (i := 1) hg
  have HG := Lib.hid (fun _ : True => hg)
  have HF := Lib.hid (first_any hh oo cap L hn hB w (Lib.hid hat))
  have HA := Lib.hid hat
  clear hg hat
  obtain ⟨n, sz, er, hr⟩ : ∃ n sz er, rd 0 0 L = (n, sz, er) := ⟨_, _, _, rfl⟩
  have hsz : sz ≤ L.length := by have := rd_size L 0 0; rw [hr] at this; have h2 : sz ≤ 0 + L.length := this; omega
  have HR := Lib.hid (fun _ : True => hr)
  have HE : Hid (True → er ≠ 0 → n = 0 ∧ sz = 0) := Lib.hid fun _ he => by have := rd_err L 0 0; rw [hr] at this; exact this he
  rw [hr] at HF
  clear hr
  by_cases he : er = 0
  · subst he
    by_cases hlo : n < least ∨ most < n
    · have hR : Hid (True → rdB least most L = (0, 0, 4)) := Lib.hid fun _ => by unfold rdB; rw [HR.out trivial]; exact if_pos ⟨rfl, hlo⟩
      rcases hlo with hlo | hlo
      all_goals
        go_enter Try.func15, Try.ntmps15
        go_wp2_with (first
          | (go_at_call 16; refine (err_any g L 0 _ hb).mono ?_; rintro e w' ⟨rfl, rfl⟩)
          | (go_at_call 25; refine HF.out.mono ?_; rintro e w' ⟨rfl, rfl⟩; unfold rdV))
        all_goals
          go_ret
          rw [hR.out trivial]
          exact ⟨rfl, ⟨hh, oo, cap, box_set1 (HG.out trivial) _, hcap, hne, at_set HA.out _ _ hne _⟩, below_set _ _ _ _⟩
    · have hR : Hid (True → rdB least most L = (n, sz, 0)) := Lib.hid fun _ => by unfold rdB; rw [HR.out trivial]; exact if_neg fun h => hlo h.2
      have hlo1 : least ≤ n := by omega
      have hlo2 : n ≤ most := by omega
      clear hlo
      by_cases hcs : cap = sz
      · subst hcs
        go_enter Try.func15, Try.ntmps15
        go_wp2_with (first
          | (go_at_call 16; refine (err_any g L 0 _ hb).mono ?_; rintro e w' ⟨rfl, rfl⟩)
          | (go_at_call 25; refine HF.out.mono ?_; rintro e w' ⟨rfl, rfl⟩; unfold rdV))
        all_goals
          go_ret
          rw [hR.out trivial]
          show _ = _ ∧ Box _ g (L.drop cap) 0 ∧ _
          refine ⟨rfl, ⟨hh, oo, cap - cap, ?_, by rw [List.length_drop]; omega, hne, at_nil (by rw [List.length_drop]; omega)⟩, below_set _ _ _ _⟩
          rw [List.length_drop, show L.length - cap = 0 by omega, Nat.sub_self]
          exact box_set0 (HG.out trivial) _
      · go_enter Try.func15, Try.ntmps15
        go_wp2_with (first
          | (go_at_call 16; refine (err_any g L 0 _ hb).mono ?_; rintro e w' ⟨rfl, rfl⟩)
          | (go_at_call 25; refine HF.out.mono ?_; rintro e w' ⟨rfl, rfl⟩; unfold rdV))
        all_goals
          go_ret
          rw [hR.out trivial]
          show _ = _ ∧ Box _ g (L.drop sz) 0 ∧ _
          refine ⟨rfl, ⟨hh, oo + sz, cap - sz, ?_, by rw [List.length_drop]; omega, hne, at_set (at_drop HA.out sz) _ _ hne _⟩, below_set _ _ _ _⟩
          rw [List.length_drop]
          exact box_set0 (HG.out trivial) _
  · have hR : Hid (True → rdB least most L = (0, 0, er)) := Lib.hid fun _ => by
      unfold rdB; rw [HR.out trivial, if_neg fun h => he h.1]
      obtain ⟨e1, e2⟩ := HE.out trivial he
      rw [e1, e2]
    go_enter Try.func15, Try.ntmps15
    go_wp2_with (first
      | (go_at_call 16; refine (err_any g L 0 _ hb).mono ?_; rintro e w' ⟨rfl, rfl⟩)
      | (go_at_call 25; refine HF.out.mono ?_; rintro e w' ⟨rfl, rfl⟩; unfold rdV))
    all_goals
      go_ret
      rw [hR.out trivial]
      exact ⟨rfl, ⟨hh, oo, cap, box_set1 (HG.out trivial) _, hcap, hne, at_set HA.out _ _ hne _⟩, below_set _ _ _ _⟩
end Go.Proofs.Ytflgodphphbbjaa
