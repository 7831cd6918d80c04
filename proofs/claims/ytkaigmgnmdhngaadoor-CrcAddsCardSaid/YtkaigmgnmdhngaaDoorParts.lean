/- Contracts of 'bytes'; of Sum of one part and of two, as the caller lays them. -/
import Derived.Test.YtkaigmgnmdhngaaDoorSums
namespace Go.Proofs.YtkaigmgnmdhngaaDoor
open Go.ChangeShapes Go.WideShapes Go.ChangeAt Go.RowKit Go.Joins

def Cut (m len : Nat) : Prop := m = len ∧ len ≤ 3000 ∨ m = 3000 ∧ 3000 < len
set_option maxRecDepth 20000 in
theorem bytes_any (a0 : Option Addr) (len0 cap0 m : Nat) (hm : Cut m len0) (hcap : len0 ≤ cap0) (w : World) :
    Calls Tryd.prog 8 #[.slice a0 len0 cap0] w fun e w' => e = .returned (.slice a0 m cap0) ∧ w = w' := by
  rcases hm with ⟨rfl, hm⟩ | ⟨rfl, hm⟩
  · by_cases h0 : cap0 = 0
    · obtain rfl : m = 0 := by omega
      subst h0
      go_enter Tryd.func8, Tryd.ntmps8
      go_wp2
      go_ret
      exact ⟨rfl, rfl⟩
    · go_enter Tryd.func8, Tryd.ntmps8
      go_wp2
      go_ret
      exact ⟨rfl, rfl⟩
  · have h0 : ¬ cap0 = 0 := by omega
    go_enter Tryd.func8, Tryd.ntmps8
    go_wp2
    go_ret
    exact ⟨rfl, rfl⟩
/-- one part, as the caller lays it -/
theorem sum_one (W : World) (g : Nat) (hg : g = W.heap.size) (ht : Hid (Tab W)) (sp : Option Addr) (cap n : Nat) (L : List Nat) (hL : L.length = n) (hn : n ≤ 1000000) (hB : ∀ b ∈ L, b < 256) (hS : Hid (Src W sp L)) :
    Calls Tryd.prog 11 #[.slice (some ⟨g, 0, none⟩) 1 1] (W.alloc (.cells #[.slice sp n cap] 22)) fun e w' => e = .returned (.int .u32 ((crcOf L : Nat) : Int)) ∧ W.alloc (.cells #[.slice sp n cap] 22) = w' := by
  subst hg hL
  have hb : Below W.heap.size W (W.alloc (.cells #[.slice sp L.length cap] 22)) := (Below.refl _ W).alloc (Nat.le_refl _) _
  have h := sum_any W.heap.size 0 1 [(sp, cap, L)] (show 1 ≤ 10 by decide) (fun p hp => by simp at hp; subst hp; exact ⟨hn, hB⟩) _ (Lib.hid (tab_later ht.out hb)) (Lib.hid (fun i p hp => by
    match i, hp with
    | 0, hp =>
      simp at hp; subst hp
      exact ⟨by simp [World.cell?, heap_alloc], src_later hS.out hb⟩
    | n + 1, hp => simp at hp))
  have e : all [(sp, cap, L)] = L := by simp [all]
  rw [e] at h
  exact h
/-- two -/
theorem sum_two (W : World) (g : Nat) (hg : g = W.heap.size) (ht : Hid (Tab W)) (sp sq : Option Addr) (cap caq n q : Nat) (L M : List Nat) (hL : L.length = n) (hM : M.length = q) (hn : n ≤ 1000000) (hq : q ≤ 1000000) (hB : ∀ b ∈ L ++ M, b < 256) (hS : Hid (Src W sp L)) (hT : Hid (Src W sq M)) :
    Calls Tryd.prog 11 #[.slice (some ⟨g, 0, none⟩) 2 2] (W.alloc (.cells #[.slice sp n cap, .slice sq q caq] 22)) fun e w' => e = .returned (.int .u32 ((crcOf (L ++ M) : Nat) : Int)) ∧ W.alloc (.cells #[.slice sp n cap, .slice sq q caq] 22) = w' := by
  subst hg hL hM
  have hb : Below W.heap.size W (W.alloc (.cells #[.slice sp L.length cap, .slice sq M.length caq] 22)) := (Below.refl _ W).alloc (Nat.le_refl _) _
  have h := sum_any W.heap.size 0 2 [(sp, cap, L), (sq, caq, M)] (show 2 ≤ 10 by decide) (fun p hp => by
    simp at hp
    rcases hp with rfl | rfl
    · exact ⟨hn, fun b hb => hB b (List.mem_append_left _ hb)⟩
    · exact ⟨hq, fun b hb => hB b (List.mem_append_right _ hb)⟩) _ (Lib.hid (tab_later ht.out hb)) (Lib.hid (fun i p hp => by
    match i, hp with
    | 0, hp =>
      simp at hp; subst hp
      exact ⟨by simp [World.cell?, heap_alloc], src_later hS.out hb⟩
    | 1, hp =>
      simp at hp; subst hp
      exact ⟨by simp [World.cell?, heap_alloc], src_later hT.out hb⟩
    | n + 2, hp => simp at hp))
  have e : all [(sp, cap, L), (sq, caq, M)] = L ++ M := by simp [all]
  rw [e] at h
  exact h
end Go.Proofs.YtkaigmgnmdhngaaDoor
