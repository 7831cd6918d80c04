/- Sectors that last, one behind the other; may there be a log. -/
import Derived.Test.YtfhgdcljhncjmaaDoorWalM
import Derived.Test.YtfhgdcljhncjmaaDoorWalD
namespace Go.Proofs.YtfhgdcljhncjmaaDoor
open Go.ChangeShapes Go.WideShapes Go.ChangeAt Go.RowKit
set_option linter.unusedVariables false
set_option maxRecDepth 20000

theorem wl_any {B : Nat} {w : World} {g L k : Nat} {ns : List ByteArray} (h : Dq B w g L ns k) (hk : k ≤ 100000) (i : Int) (n : Nat) (hni : (n : Int) = i) (hn : n < L) (gb : Nat) (M : List Nat) (hs : SecRow w gb M) (hl : M.length ≤ 512) :
    Calls Tryd.prog 35 #[.pointer (some ⟨g, 0, none⟩), .int .i64 i, .slice (some ⟨gb, 0, none⟩) 512 512] w fun e w' => e = .returned (.int .i64 0) ∧ Dq B w' g L (ns.set n (sec M)) (k + 2) ∧ Below B w w' ∧ KeepT g w w' := by
  have H1 := Lib.hid (dq_write h (by omega) i n hni hn gb M hs hl)
  have H2 := Lib.hid (fun W (hW : Dq B W g L (ns.set n (sec M)) (k + 1)) => dq_barrier hW (by omega))
  clear h hs hl hn hk hni
  go_enter Tryd.func35, Tryd.ntmps35
  go_wp2_with fail
  refine H1.out.mono ?_
  rintro e w1 ⟨rfl, a1, a2, a3⟩
  go_wp2_with fail
  refine (H2.out w1 a1).mono ?_
  rintro e w2 ⟨rfl, b1, b2, b3⟩
  go_wp2_with fail
  go_ret
  exact ⟨rfl, b1, a2.trans b2, a3.trans b3⟩
theorem wb_any {B : Nat} {w : World} {g L k : Nat} {ns : List ByteArray} (h : Dq B w g L ns k) (hk : k ≤ 90000) (i : Int) (n : Nat) (hni : (n : Int) = i) (hn : n < L) (gb : Nat) (M : List Nat) (hs : SecRow w gb M) (hl : M.length ≤ 512) :
    Calls Tryd.prog 48 #[.pointer (some ⟨g, 0, none⟩), .int .i64 i, .slice (some ⟨gb, 0, none⟩) 512 512] w fun e w' => e = .returned (.int .i64 0) ∧ Dq B w' g L (ns.set n (sec M)) (k + 3) ∧ Below B w w' ∧ KeepT g w w' := by
  have H1 := Lib.hid (dq_barrier h (by omega))
  have H2 := Lib.hid (fun W (hW : Dq B W g L ns (k + 1)) (hr : SecRow W gb M) => wl_any hW (by omega) i n hni hn gb M hr hl)
  have HS := Lib.hid hs
  clear h hs hl hn hk hni
  go_enter Tryd.func48, Tryd.ntmps48
  go_wp2_with fail
  refine H1.out.mono ?_
  rintro e w1 ⟨rfl, a1, a2, a3⟩
  go_wp2_with fail
  refine (H2.out w1 a1 (keep_row HS.out a3)).mono ?_
  rintro e w2 ⟨rfl, b1, b2, b3⟩
  go_wp2_with fail
  go_ret
  exact ⟨rfl, b1, a2.trans b2, a3.trans b3⟩
theorem count_any {B : Nat} {w : World} {g L k : Nat} {ns : List ByteArray} (h : Dq B w g L ns k) :
    Calls Tryd.prog 60 #[.pointer (some ⟨g, 0, none⟩)] w fun e w' => e = .returned (.int .i64 (L : Int)) ∧ w = w' := by
  obtain ⟨gn, gl, cn, cl, vw, ls, W, st, h1, h2⟩ := h
  have hc1 := Fk.head1 h1.head
  clear h1 h2
  go_enter Tryd.func60, Tryd.ntmps60
  go_wp2_with fail
  go_ret
  exact ⟨rfl, rfl⟩
theorem has_ok {B : Nat} {w : World} {g L k : Nat} {ns : List ByteArray} (h : Dq B w g L ns k) (a b : Nat) (hb : 3 ≤ b) (hab : a + b ≤ L) (hL : L ≤ 1000) :
    Calls Tryd.prog 37 #[.pointer (some ⟨g, 0, none⟩), .int .i64 (a : Int), .int .i64 (b : Int)] w fun e w' => e = .returned (.bool true) ∧ w = w' := by
  have H1 := Lib.hid (count_any h)
  clear h
  go_enter Tryd.func37, Tryd.ntmps37
  go_wp2_with fail
  refine H1.out.mono ?_
  rintro e w' ⟨rfl, rfl⟩
  have hw : IntKind.i64.wrap ((L : Int) - (b : Int)) = (L : Int) - (b : Int) := by rw [IntKind.wrap_i64]; omega
  go_wp2_with fail
  go_ret
  refine ⟨?_, rfl⟩
  first
  | rfl
  | (simp; omega)
/-- noughts in sectors from a + 1 on -/
def zer (ns : List ByteArray) (a : Nat) : Nat → List ByteArray
  | 0 => ns
  | j + 1 => (zer ns a j).set (a + 1 + j) (sec [])
def fmt (ns : List ByteArray) (a b : Nat) : List ByteArray := (zer ns a (b - 1)).set a (sec (headL 1))
end Go.Proofs.YtfhgdcljhncjmaaDoor
