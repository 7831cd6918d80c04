/- Sectors beside a log are left alone; what no log may stand in. -/
import Derived.Test.YtblaogcobhcpaaaDoorWalZC
namespace Go.Proofs.YtblaogcobhcpaaaDoor
open Go.ChangeShapes Go.WideShapes Go.ChangeAt Go.RowKit
set_option linter.unusedVariables false
set_option maxRecDepth 20000

theorem lg_append_o {B : Nat} {w : World} {g l L : Nat} {s : Dst} {f en : Nat} {ag : Int} {hd : Nat} {bs : List (List Nat)} {p k : Nat} (h : Lg B w g l L s f en ag hd bs p k) (hq : Quiet s) (hk : k ≤ 40000) (b : List Nat) (n cap : Nat) (sp : Option Addr) (hn : b.length = n) (hn2 : n ≤ 100000) (hlc : n ≤ cap) (hb : ∀ x ∈ b, x < 256) (hS : Row8 B w sp b) (hfit : p + need n ≤ en) :
    Calls Tryd.prog 12 #[.pointer (some ⟨l, 0, none⟩), .slice sp n cap] w fun e w' => e = .returned (.int .i64 0) ∧ Hid (∃ s', Lg B w' g l L s' f en ag hd (bs ++ [b]) (p + need n) (k + need n + 3) ∧ Quiet s' ∧ ∀ q, q < f ∨ en ≤ q → sb s'.ls q = sb s.ls q) ∧ Hid (Below B w w') ∧ Hid (KeepE l w w') := by
  have hcnt := h.inv.count
  have hage := h.inv.age
  have henL := h.enL
  have hlen := h.inv.len
  have hge := h.inv.ge
  have hnd := need_parts n
  obtain ⟨s', hr, q', _⟩ := acts_quiet (recActs ag (bs.length : Int) p b) hq
  obtain ⟨g1, _⟩ := h.inv.record (by omega) h.w0 b n hn hn2 hb hfit hr
  have hout : ∀ q, q < f ∨ en ≤ q → sb s'.ls q = sb s.ls q := fun q hq2 => by
    unfold recActs at hr
    rw [hn, wrs_range] at hr
    obtain ⟨c1, _⟩ := rec_acts _ _ h.w0 hr
    obtain ⟨_, c2, _, _⟩ := c1 rfl
    obtain ⟨_, _, t3⟩ := setT_parts h.inv.full p b hb (nparts n) (by omega)
    rw [c2, sb_set_ne (show q ≠ p by omega), t3 q, if_neg (by omega)]
  refine (append_any h.da hk p en h.enL.1 h.enL.2 b n cap sp hn hb hn2 hlc ⟨by omega, by omega⟩ (by omega) (by omega) h.log h.lb hS h.gb (Lib.hid h.tab) hfit s' true hr).mono ?_
  rintro e w' ⟨a0, a1, a2, a3⟩
  have hT := tab_keep h.gb h.tab a2.out
  rcases a0 with ⟨hok, rfl, hlg⟩ | ⟨hok, _⟩
  · obtain ⟨c1, c2, c3, c4⟩ := g1 rfl
    refine ⟨rfl, Lib.hid ⟨s', ⟨a1.out, c1, c4, ?_, h.lb, hT, h.enL, h.gb⟩, q', hout⟩, a2, a3⟩
    rw [List.length_append, show ((bs.length + [b].length : Nat) : Int) = (bs.length : Int) + 1 by simp]
    exact hlg
  · cases hok
theorem lg_trunc_o {B : Nat} {w : World} {g l L : Nat} {s : Dst} {f en : Nat} {ag : Int} {hd : Nat} {bs : List (List Nat)} {p k : Nat} (h : Lg B w g l L s f en ag hd bs p k) (hq : Quiet s) (hk : k ≤ 40000) (hag : ag < 1000000) :
    Calls Tryd.prog 13 #[.pointer (some ⟨l, 0, none⟩)] w fun e w' => e = .returned (.int .i64 0) ∧ Hid (∃ s', Lg B w' g l L s' f en (ag + 1) (1 - hd) [] (f + 2) (k + 2) ∧ Quiet s' ∧ ∀ q, q < f ∨ en ≤ q → sb s'.ls q = sb s.ls q) ∧ Hid (Below B w w') ∧ Hid (KeepE l w w') := by
  have hage := h.inv.age
  have henL := h.enL
  have hge := h.inv.ge
  have hhd := h.inv.hd01
  obtain ⟨s', hr, q', _⟩ := acts_quiet [some (f + (1 - hd), sec (headL (ag + 1))), none] hq
  obtain ⟨g1, _⟩ := h.inv.cut h.w0 hag hr
  have hout : ∀ q, q < f ∨ en ≤ q → sb s'.ls q = sb s.ls q := fun q hq2 => by
    obtain ⟨c1, _⟩ := one_acts _ h.w0 hr
    obtain ⟨_, c2, _, _⟩ := c1 rfl
    rw [c2]
    exact sb_set_ne (show q ≠ f + (1 - hd) by omega) _
  refine (truncate_any h.da hk f (1 - hd) (by omega) (by omega) (by omega) (by omega) (by omega) (by omega) h.log h.lb h.gb (Lib.hid h.tab) s' true hr).mono ?_
  rintro e w' ⟨a0, a1, a2, a3⟩
  have hT := tab_keep h.gb h.tab a2.out
  rcases a0 with ⟨hok, rfl, hlg⟩ | ⟨hok, _⟩
  · obtain ⟨c1, c2, c3, c4⟩ := g1 rfl
    refine ⟨rfl, Lib.hid ⟨s', ⟨a1.out, c1, c4, ?_, h.lb, hT, h.enL, h.gb⟩, q', hout⟩, a2, a3⟩
    rw [show ((f + 2 : Nat) : Int) = (f : Int) + 2 by push_cast; rfl]
    exact hlg
  · cases hok
/-- where no log may stand -/
theorem has_nil (a b : Int) (w : World) : Calls Tryd.prog 37 #[.pointer none, .int .i64 a, .int .i64 b] w fun e w' => e = .returned (.bool false) ∧ w = w' := by
  go_enter Tryd.func37, Tryd.ntmps37
  go_wp2_with fail
  go_ret
  exact ⟨rfl, rfl⟩
theorem has_bad {B : Nat} {w : World} {g L k : Nat} {ns : List ByteArray} (h : Dq B w g L ns k) (a b : Int) (hb1 : b ≤ 9223372036854775807) (hL : L ≤ 1000) (hbad : a < 0 ∨ b < 3 ∨ (L : Int) - b < a) :
    Calls Tryd.prog 37 #[.pointer (some ⟨g, 0, none⟩), .int .i64 a, .int .i64 b] w fun e w' => e = .returned (.bool false) ∧ w = w' := by
  have H1 := Lib.hid (count_any h)
  clear h
  by_cases h1 : a < 0
  · clear hbad
    go_enter Tryd.func37, Tryd.ntmps37
    go_wp2_with fail
    go_ret
    exact ⟨rfl, rfl⟩
  · by_cases h2 : b < 3
    · clear hbad
      go_enter Tryd.func37, Tryd.ntmps37
      go_wp2_with fail
      go_ret
      exact ⟨rfl, rfl⟩
    · have h3 : (L : Int) - b < a := by omega
      have hw : IntKind.i64.wrap ((L : Int) - b) = (L : Int) - b := by rw [IntKind.wrap_i64]; omega
      clear hbad
      go_enter Tryd.func37, Tryd.ntmps37
      go_wp2_with fail
      refine H1.out.mono ?_
      rintro e w' ⟨rfl, rfl⟩
      go_wp2_with fail
      go_ret
      refine ⟨?_, rfl⟩
      first
      | rfl
      | (simp; omega)
theorem format_bad (d : Option Addr) (a b : Int) (w : World) (h : Calls Tryd.prog 37 #[.pointer d, .int .i64 a, .int .i64 b] w fun e w' => e = .returned (.bool false) ∧ w = w') :
    Calls Tryd.prog 24 #[.pointer d, .int .i64 a, .int .i64 b] w fun e w' => e = .returned (.int .i64 1) ∧ w = w' := by
  have H := Lib.hid h
  clear h
  go_enter Tryd.func24, Tryd.ntmps24
  go_wp2_with fail
  refine H.out.mono ?_
  rintro e w' ⟨rfl, rfl⟩
  go_wp2_with fail
  go_ret
  exact ⟨rfl, rfl⟩
theorem open_bad (d : Option Addr) (a b : Int) (w : World) (h : Calls Tryd.prog 37 #[.pointer d, .int .i64 a, .int .i64 b] w fun e w' => e = .returned (.bool false) ∧ w = w') :
    Calls Tryd.prog 18 #[.pointer d, .int .i64 a, .int .i64 b] w fun e w' => e = .returned (.tuple #[.pointer none, .slice none 0 0, .int .i64 1]) ∧ w = w' := by
  have H := Lib.hid h
  clear h
  go_enter Tryd.func18, Tryd.ntmps18
  go_wp2_with fail
  refine H.out.mono ?_
  rintro e w' ⟨rfl, rfl⟩
  go_wp2_with fail
  go_ret3
  exact ⟨rfl, rfl⟩
theorem sec_get {ns : List ByteArray} {i : Nat} {M : List Nat} (hf : Full ns) (hi : i < ns.length) (h : sb ns i = padL M) : ns[i]? = some (sec M) := by
  rw [(sb_get hf i hi).1, h]; rfl
/-- a row of one byte, filled so far -/
theorem fill_more {w : World} {g k : Nat} (x : Nat) (hk : k < 512) (h : SecRow w g (List.replicate k x)) : SecRow (w.setCell ⟨g, k, none⟩ (.int .u8 (x : Int))) g (List.replicate (k + 1) x) := by
  unfold SecRow at h ⊢
  unfold World.setCell
  simp only
  rw [Array.getElem?_modify, if_pos rfl, h]
  simp only [Option.map_some]
  congr 2
  rw [if_neg (by simp)]
  apply Array.ext'
  rw [Array.toList_setIfInBounds]
  simp only
  unfold Fw.cells padL
  apply List.ext_getElem?
  intro i
  rw [List.getElem?_set]
  simp only [List.getElem?_map, List.length_map, List.length_append, List.length_replicate]
  by_cases hi : k = i
  · subst hi
    rw [if_pos rfl, if_pos (by omega), List.getElem?_append_left (by simp)]
    simp
  · rw [if_neg hi]
    by_cases h1 : i < k
    · rw [List.getElem?_append_left (by simpa using h1), List.getElem?_append_left (by simp; omega)]
      simp [h1, show i < k + 1 by omega]
    · rw [List.getElem?_append_right (by simp; omega), List.getElem?_append_right (by simp; omega)]
      simp only [List.length_replicate, List.getElem?_replicate]
      by_cases h2 : i < 512
      · rw [if_pos (by omega), if_pos (by omega)]
      · rw [if_neg (by omega), if_neg (by omega)]
end Go.Proofs.YtblaogcobhcpaaaDoor
