/- What the walk of ScriptorNumbers is told: the texts, what they become as bytes, and the calls at them. -/
import Derived.Test.YthkejjjgnjepjaaDoorFw
import Derived.Test.YthkejjjgnjepjaaDoorFc
import Derived.Test.YthkejjjgnjepjaaDoorFd
import Derived.Test.YthkejjjgnjepjaaDoorFn
namespace Go.Proofs.YthkejjjgnjepjaaDoor
open Go.ChangeShapes Go.WideShapes Go.ChangeAt Go.RowKit
set_option linter.unusedVariables false

/-- an integer's digits; a float's -/
def tI (n : Int) : ByteArray := Fd.st (Lib.itoa (Fd.w63 n))
def tF (x : Nat) : ByteArray := strOfNums (Fn.hexNums (Fn.canon x))
theorem tI_size (n : Int) : (tI n).size ≤ 20 := by
  have h1 := Fd.w63_lo n
  have h2 := Fd.w63_hi n
  unfold tI
  rw [Fd.st_size]
  unfold Lib.itoa
  split
  · have := Fd.dec_len 18 (Fd.w63 n).natAbs (by omega)
    simp only [List.length_cons]
    omega
  · have := Fd.dec_len 18 (Fd.w63 n).toNat (by omega)
    omega
theorem tF_size (x : Nat) : (tF x).size = 16 := by unfold tF; rw [strOfNums_size]; unfold Fn.hexNums; simp
def enc (ts : List ByteArray) : List Nat := (ts.map Fw.wT).flatten
theorem enc_snoc (ts : List ByteArray) (t : ByteArray) : enc (ts ++ [t]) = enc ts ++ Fw.wT t := by simp [enc]
theorem enc_app (a b : List ByteArray) : enc (a ++ b) = enc a ++ enc b := by simp [enc]
theorem enc_cons (t : ByteArray) (ts : List ByteArray) : enc (t :: ts) = Fw.wT t ++ enc ts := by simp [enc]
theorem enc_bytes (ts : List ByteArray) : Fw.Bytes (enc ts) := fun b hb => by
  unfold enc at hb
  obtain ⟨l, hl, hb⟩ := List.mem_flatten.1 hb
  obtain ⟨t, _, rfl⟩ := List.mem_map.1 hl
  exact Fw.bytes_wT t b hb
theorem wT_len (t : ByteArray) (h : t.size ≤ 20) : (Fw.wT t).length ≤ 30 := by
  unfold Fw.wT
  rw [List.length_append, Fw.bytesOf_len]
  have := Fw.vb_ten (Fw.zz (t.size : Int)) (Fw.zz_lt _ (by omega) (by omega))
  omega
theorem enc_len : ∀ ts : List ByteArray, (∀ t ∈ ts, t.size ≤ 20) → (enc ts).length ≤ 30 * ts.length
  | [], _ => by simp [enc]
  | t :: r, h => by
    rw [enc_cons, List.length_append, List.length_cons]
    have h1 := wT_len t (h t (List.mem_cons_self ..))
    have h2 := enc_len r fun x hx => h x (List.mem_cons_of_mem _ hx)
    omega
theorem take_next {α : Type} (l : List α) (d : α) (k : Nat) (h : k < l.length) : l.take (k + 1) = l.take k ++ [l.getD k d] := by
  rw [List.take_add_one]; simp [List.getD, h]
theorem drop_next {α : Type} (l : List α) (d : α) (k : Nat) (h : k < l.length) : l.drop k = l.getD k d :: l.drop (k + 1) := by
  rw [List.drop_eq_getElem_cons h]; simp [List.getD, h]
theorem tabIs_later {w W : World} {name : String} {k : IntKind} {zs : List Int} (h : Lib.TabIs Tryd.prog w name k zs) (hb : Below w.heap.size w W) : Lib.TabIs Tryd.prog W name k zs := by
  unfold Lib.TabIs World.var? at *
  cases hg : Tryd.prog.globalNamed name with
  | none => simp [hg] at h
  | some g =>
    simp only [hg, Option.bind_some] at h ⊢
    have hlt : g < w.heap.size := by
      rcases Nat.lt_or_ge g w.heap.size with h' | h'
      · exact h'
      · rw [Array.getElem?_eq_none h'] at h; simp at h
    rw [hb.block g hlt]
    exact h
/-- both tables -/
def Tabs (w : World) : Prop := Lib.TabIs Tryd.prog w "internal/strconv.uint64pow10" .u64 Lib.pow10Tab ∧ Fc.Tab w
theorem tabs_later {w W : World} (h : Tabs w) (hb : Below w.heap.size w W) : Tabs W := ⟨tabIs_later h.1 hb, Fc.tab_later h.2 hb⟩
theorem text_ti (n : Int) (w : World) (ht : Tabs w) : Calls Tryd.prog 5 #[.int .i64 n] w fun e w' => e = .returned (.string (tI n)) ∧ Hid (Below w.heap.size w w') := Fd.text_any n w ht.1
theorem read_ti (n : Int) (w : World) : Calls Tryd.prog 13 #[.string (tI n)] w fun e w' => e = .returned (.tuple #[.int .i64 (Fd.w63 n), .int .i64 0]) ∧ w = w' := by
  have h1 := Fd.w63_lo n
  have h2 := Fd.w63_hi n
  have h := Fd.read_any (Lib.itoa (Fd.w63 n)) (by have := Fd.itoa_len (Fd.w63 n) h1 h2; omega) w
  rw [Fd.out_itoa (Fd.w63 n) h1 h2] at h
  exact h
theorem canon_lt (x : Nat) (h : x < 18446744073709551616) : Fn.canon x < 18446744073709551616 := by
  unfold Fn.canon Fn.nanB
  split <;> omega
theorem bits_tf (x : Nat) (h : x < 18446744073709551616) (w : World) : Calls Tryd.prog 8 #[.int .u64 ((Fn.canon x : Nat) : Int)] w fun e w' => e = .returned (.string (tF x)) ∧ Hid (Below w.heap.size w w') :=
  (Fn.bits_any (Fn.canon x) (canon_lt x h) w).mono fun e w' ⟨h1, h2⟩ => ⟨h1, Lib.hid h2⟩
theorem str_enc (t : ByteArray) (ht : t.size ≤ 20) (w : World) : Calls Tryd.prog 4 #[.string t] w fun e w' => ∃ g cap, e = .returned (.slice (some ⟨g, 0, none⟩) (Fw.wT t).length cap) ∧ Hid (∀ j u, (Fw.cells (Fw.wT t))[j]? = some u → w'.cell? ((⟨g, 0, none⟩ : Addr).add j) = some u) ∧ Hid (Below w.heap.size w w') := Fw.str_app t (by omega) w
theorem rdS_most (t : ByteArray) (most : Nat) (h : t.size ≤ most) (hm : most ≤ 200) (R : List Nat) : Fw.rdS (most : Int) (Fw.wT t ++ R) = (Fw.bytesOf t, R, 0) := by
  unfold Fw.rdS Fw.wT
  rw [List.append_assoc, Fw.rdB_num _ (Fw.sizeOk t (by omega)) 0 (most : Int) (by omega) (by omega)]
  simp only [ne_eq, not_true_eq_false, if_false, List.drop_left, Int.toNat_natCast]
  rw [if_neg (by rw [List.length_append, Fw.bytesOf_len]; omega)]
  have e : t.size = (Fw.bytesOf t).length := (Fw.bytesOf_len t).symm
  rw [e, List.take_left, List.drop_left]
/-- a text is read, that stands at the front -/
theorem str_most (g : Nat) (t : ByteArray) (most : Nat) (mi : Int) (hmi : (most : Int) = mi) (ht : t.size ≤ most) (hm : most ≤ 200) (R : List Nat) (hR : Fw.Bytes R) (hl : (Fw.wT t ++ R).length ≤ 1000000) (w : World) (hb : Hid (Fw.Box w g (Fw.wT t ++ R) 0)) :
    Calls Tryd.prog 14 #[.pointer (some ⟨g, 0, none⟩), .int .i64 mi] w fun e w' => e = .returned (.string t) ∧ Hid (Fw.Box w' g R 0) ∧ Hid (Below g w w') := by
  subst hmi
  refine (Fw.inStr_any g _ (most : Int) hl (Fw.bytes_append (Fw.bytes_wT t) hR) w hb).mono fun e w' ⟨h1, h2, h3⟩ => ?_
  rw [rdS_most t most ht hm R] at h1 h2
  exact ⟨by rw [h1]; show _ = Ending.returned (.string t); rw [Fw.sv_bytesOf], Lib.hid h2, Lib.hid h3⟩
set_option maxRecDepth 20000 in
theorem stands_any (w : World) : Calls Tryd.prog 10 #[] w fun e w' => e = .returned (.bool true) ∧ w = w' := by
  go_enter Tryd.func10, Tryd.ntmps10
  go_wp2_with (go_at_call 23; refine (Fd.add_any _ _ _).mono ?_; rintro e w' ⟨rfl, rfl⟩)
  go_ret
  have e : Fd.w63 4611686018427387904 = -4611686018427387904 := by decide
  exact ⟨by rw [e]; rfl, rfl⟩
/-- bytes of the call's own, as crc has them -/
theorem own_crc {B : Nat} {sp : Option Addr} {n cap : Nat} {L : List Nat} {w : World} (h : Fw.Own B (.slice sp n cap) L w) : L.length = n ∧ Fc.Src w sp L := by
  obtain ⟨a, c, e⟩ := Fw.own_form h
  cases e
  refine ⟨rfl, fun hp => ?_⟩
  obtain ⟨g, c, e, _, _, _, _, hat⟩ := Fw.own_at h hp
  cases e
  exact ⟨g, 0, rfl, hat⟩
theorem row_own {B g n : Nat} {L : List Nat} {w : World} (h : Fc.Row w g n L) (hl : L.length = n) (hB : B ≤ g) (hn : n ≤ 100000) : Fw.Own B (.slice (some ⟨g, 0, none⟩) n n) L w := by
  obtain ⟨cur, h1, h2, h3, h4⟩ := h
  refine ⟨?_, .inr ⟨g, n, cur, by rw [hl], hB, h1, by omega, by unfold maxLen; omega, by omega, by rw [Nat.mul_one]; exact h4⟩⟩
  rw [Nat.mul_one]; unfold Fw.cells; rw [List.length_map]
theorem cells_same (L : List Nat) : Fc.cells L = Fw.cells L := rfl
/-- floats that came in -/
def SrcU (w : World) (sp : Option Addr) (fs : List Nat) : Prop := 0 < fs.length → ∃ g o, sp = some ⟨g, o, none⟩ ∧ ∀ i, i < fs.length → w.cell? ⟨g, o + i, none⟩ = some (.int .u64 ((fs.getD i 0 : Nat) : Int))
theorem srcU_later {w W : World} {sp : Option Addr} {fs : List Nat} (h : SrcU w sp fs) (hb : Below w.heap.size w W) : SrcU W sp fs := fun hp => by
  obtain ⟨g, o, e, hc⟩ := h hp
  exact ⟨g, o, e, fun i hi => by rw [hb.cell (World.block_lt_of_cell? w _ (hc i hi))]; exact hc i hi⟩
theorem Fw.add_at0 (g j : Nat) : (⟨g, 0, none⟩ : Addr).add j = ⟨g, j, none⟩ := by unfold Addr.add; split <;> simp_all
theorem Fw.add_at (g o i : Nat) : (⟨g, o, none⟩ : Addr).add i = ⟨g, o + i, none⟩ := by unfold Addr.add; split <;> simp_all
theorem own_row {B n : Nat} {v : Value} {C : List Nat} {w : World} (h : w.ownsRow B 5 1 v (0 + n) ([] ++ Fw.cells C)) (hC : C.length = n) (hp : 0 < n) : ∃ g cap, v = .slice (some ⟨g, 0, none⟩) n cap ∧ B ≤ g ∧ n ≤ cap ∧ cap ≤ 9223372036854775807 ∧ Fc.Row w g cap C := by
  rw [Nat.zero_add, List.nil_append, ← hC] at h
  obtain ⟨g, cap, e, h1, h2, h3, h4⟩ := Fc.row_of_owns h (by omega)
  exact ⟨g, cap, by rw [e, hC], h1, by omega, h2, h4⟩
end Go.Proofs.YthkejjjgnjepjaaDoor
