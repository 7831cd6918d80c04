/- The walk of the law CrcSums. -/
import Derived.Test.YtkaigmgnmdhngaaDoorParts
import Derived.Deep.RegionHeld3
namespace Go.Proofs.YtkaigmgnmdhngaaDoor
open Go.ChangeShapes Go.WideShapes Go.ChangeAt Go.RowKit Go.Joins

/-- what is read, in whatever later world -/
def Good (a0 a2 : Option Addr) (L : List Nat) (k : Nat) (W : World) : Prop := Tab W ∧ Src W a0 L ∧ Src W a0 (L.take k) ∧ Src W a2 (L.drop k)
theorem good_later {a0 a2 : Option Addr} {L : List Nat} {k : Nat} {w W : World} (h : Good a0 a2 L k w) (hb : Below w.heap.size w W) : Good a0 a2 L k W :=
  ⟨tab_later h.1 hb, src_later h.2.1 hb, src_later h.2.2.1 hb, src_later h.2.2.2 hb⟩
theorem good_alloc {a0 a2 : Option Addr} {L : List Nat} {k : Nat} {w : World} (h : Good a0 a2 L k w) (o : Obj) : Good a0 a2 L k (w.alloc o) := good_later h ((Below.refl _ w).alloc (Nat.le_refl _) o)
set_option maxRecDepth 20000 in
set_option maxHeartbeats 4000000 in
theorem crcSums_mid (a0 a2 : Option Addr) (len0 cap0 m : Nat) (hm : Cut m len0) (hcap : len0 ≤ cap0) (cut : Int) (w : World) (k : Nat) (hk : wrap64 ((IntKind.u64.wrap cut).tmod ((m : Int) + 1)) = (k : Int)) (hkm : k ≤ m) (s : ByteArray)
    (L : List Nat) (hL : L.length = m) (hB : ∀ b ∈ L, b < 256) (hG : Good a0 a2 L k w)
    (hq : ∀ W, Below w.heap.size w W → (convert 22 9 (.slice a0 m cap0)).run Tryd.prog W = .ok (.string s) W)
    (hr : ∀ W, Calls Tryd.prog 9 #[.string s] W fun e w' => e = .returned (.int .u32 ((crcOf L : Nat) : Int)) ∧ W = w')
    (hs1 : ∀ W, (Instr.slice 22 (.slice a0 m cap0) none (some (.int .i64 (k : Int))) none).run Tryd.prog W = .ok (.slice a0 k cap0) W)
    (hs2 : ∀ W, (Instr.slice 22 (.slice a0 m cap0) (some (.int .i64 (k : Int))) none none).run Tryd.prog W = .ok (.slice a2 (m - k) (cap0 - k)) W) :
    Calls Tryd.prog 3 #[.slice a0 len0 cap0, .int .i64 cut] w fun e w' => e = .returned (.bool true) ∧ Below w.heap.size w w' := by
  have HQ := hq w (Below.refl _ w)
  have hm3 : m ≤ 3000 := by rcases hm with h | h <;> omega
  have HBy := Lib.hid (bytes_any a0 len0 cap0 m hm hcap w)
  have HRf := Lib.hid hr
  have HT := Lib.hid hG
  obtain ⟨S, hS⟩ : ∃ S, crcOf L = S := ⟨_, rfl⟩
  obtain ⟨P, hP⟩ : ∃ P, crcOf (L.take k) = P := ⟨_, rfl⟩
  have hlk : (L.take k).length = k := by rw [List.length_take]; omega
  have hld : (L.drop k).length = m - k := by rw [List.length_drop, hL]
  have hBt : ∀ b ∈ L.take k, b < 256 := fun b hb => hB b (List.mem_of_mem_take hb)
  have hBd : ∀ b ∈ L.drop k, b < 256 := fun b hb => hB b (List.mem_of_mem_drop hb)
  have HA : Hid (∀ W g, g = W.heap.size → Hid (Good a0 a2 L k W) → Calls Tryd.prog 11 #[.slice (some ⟨g, 0, none⟩) 1 1] (W.alloc (.cells #[.slice a0 m cap0] 22)) fun e w' => e = .returned (.int .u32 (S : Int)) ∧ W.alloc (.cells #[.slice a0 m cap0] 22) = w') :=
    Lib.hid fun W g hg h => by rw [← hS]; exact sum_one W g hg (Lib.hid h.out.1) a0 cap0 m L hL (by omega) hB (Lib.hid h.out.2.1)
  have HC : Hid (∀ W g, g = W.heap.size → Hid (Good a0 a2 L k W) → Calls Tryd.prog 11 #[.slice (some ⟨g, 0, none⟩) 1 1] (W.alloc (.cells #[.slice a0 k cap0] 22)) fun e w' => e = .returned (.int .u32 (P : Int)) ∧ W.alloc (.cells #[.slice a0 k cap0] 22) = w') :=
    Lib.hid fun W g hg h => by rw [← hP]; exact sum_one W g hg (Lib.hid h.out.1) a0 cap0 k (L.take k) hlk (by omega) hBt (Lib.hid h.out.2.2.1)
  have HD : Hid (∀ W g, g = W.heap.size → Hid (Good a0 a2 L k W) → Calls Tryd.prog 11 #[.slice (some ⟨g, 0, none⟩) 2 2] (W.alloc (.cells #[.slice a0 k cap0, .slice a2 (m - k) (cap0 - k)] 22)) fun e w' => e = .returned (.int .u32 (S : Int)) ∧ W.alloc (.cells #[.slice a0 k cap0, .slice a2 (m - k) (cap0 - k)] 22) = w') :=
    Lib.hid fun W g hg h => by
      have := sum_two W g hg (Lib.hid h.out.1) a0 a2 cap0 (cap0 - k) k (m - k) (L.take k) (L.drop k) hlk hld (by omega) (by omega) (by rw [List.take_append_drop]; exact hB) (Lib.hid h.out.2.2.1) (Lib.hid h.out.2.2.2)
      rw [List.take_append_drop, hS] at this
      exact this
  have HE : Hid (∀ W, Hid (Good a0 a2 L k W) → Calls Tryd.prog 12 #[.int .u32 (P : Int), .slice a2 (m - k) (cap0 - k)] W fun e w' => e = .returned (.int .u32 (S : Int)) ∧ W = w') :=
    Lib.hid fun W h => by
      have := more_at P (L.take k) (L.drop k) hP.symm hBt a2 (cap0 - k) (by omega) hBd W (Lib.hid h.out.1) (Lib.hid h.out.2.2.2)
      rw [List.take_append_drop, hS, hld] at this
      exact this
  rw [hS] at HRf
  clear hq hr hm hG hS hP hlk hld hBt hBd hL hB
  go_enter Tryd.func3, Tryd.ntmps3
  go_wp2_with fail
  refine HBy.out.mono ?_
  rintro e w' ⟨rfl, rfl⟩
  go_wp2_with fail
  refine (HRf.out _).mono ?_
  rintro e w' ⟨rfl, rfl⟩
  go_wp2_with fail
  clear HQ hk HBy HRf
  go_region_held3 (fun _ => True) (trivial) (first
      | (go_at_call 10; refine (sums_any _ (Lib.hid (tab_later HT.out.1 ((Below.refl _ _).drew)))).mono ?_; rintro e w1 ⟨rfl, hb1'⟩; have hb1 := Lib.hid (((Below.refl _ w).drew).trans hb1'); have G1 := Lib.hid (good_later HT.out hb1.out); clear hb1')
      | (go_at_call 11; (with_reducible refine (HA.out _ _ ?_ ?_).mono ?_); (rfl); exact G1; rintro e w2 ⟨rfl, rfl⟩)
      | (go_at_call 11; (with_reducible refine (HD.out _ _ ?_ ?_).mono ?_); (simp); exact Lib.hid (good_alloc G1.out _); rintro e w2 ⟨rfl, rfl⟩)
      | (go_at_call 11; (with_reducible refine (HC.out _ _ ?_ ?_).mono ?_); (simp); exact Lib.hid (good_alloc (good_alloc G1.out _) _); rintro e w2 ⟨rfl, rfl⟩)
      | (go_at_call 12; refine (HE.out _ ?_).mono ?_; exact Lib.hid (good_alloc (good_alloc (good_alloc G1.out _) _) _); rintro e w2 ⟨rfl, rfl⟩))
  all_goals
    go_wp2
    go_ret
    exact ⟨rfl, ((hb1.out.alloc hb1.out.size _).alloc (Nat.le_trans hb1.out.size (by simp)) _).alloc (Nat.le_trans hb1.out.size (by simp; omega)) _⟩
end Go.Proofs.YtkaigmgnmdhngaaDoor
