/- The contract of the document's Str; the walk of the law WireWrites. No condition but that the number is an int. -/
import Derived.Test.YtflgodphphbbjaaSizes
import Derived.Deep.RegionWith
namespace Go.Proofs.Ytflgodphphbbjaa
open Go.ChangeShapes Go.WideShapes Go.ChangeAt Go.RowKit Go.Lib

theorem refStr_any (s : ByteArray) (hs : s.size ≤ 5000) (w : World) :
    Calls Try.prog 12 #[.string s] w fun e w' => e = .returned (.string (sv (vb (zz (s.size : Int)) ++ bytesOf s))) ∧ Below w.heap.size w w' := by
  obtain ⟨b1, b2⟩ := u64small s.size hs
  have HL := Lib.hid (fun _ : True => vb_ten (zz (s.size : Int)) (zz_lt _ b1 b2))
  have HC := Lib.hid (refNum_any (s.size : Int) b1 b2)
  have hadd : ∀ w, (Op.stringOp .add (sv (vb (zz (s.size : Int)))) s).run Try.prog w = .ok (.string (sv (vb (zz (s.size : Int)) ++ bytesOf s))) w := by
    have := sv_add (vb (zz (s.size : Int))) (bytesOf s) (by rw [bytesOf_len]; have := HL.out trivial; omega)
    rwa [sv_bytesOf] at this
  clear b1 b2
  go_enter Try.func12, Try.ntmps12
  go_wp2_with fail
  refine (HC.out _).mono ?_
  rintro e w1 ⟨rfl, hb⟩
  go_wp2_with fail
  go_ret
  exact ⟨rfl, hb⟩

/-- a row of bytes reads as its text, whatever is made behind it -/
def Reads (v : Value) (t : ByteArray) (w : World) : Prop := ∀ W, Below w.heap.size w W → (convert 23 9 v).run Try.prog W = .ok (.string t) W
theorem own_later {B : Nat} {v : Value} {l : List Nat} {w W : World} (h : Own B v l w) (hb : Below w.heap.size w W) : Own B v l W := by
  refine ⟨h.1, ?_⟩
  rcases h.2 with h | ⟨g, cap, cur, e, hg, hh, rest⟩
  · exact .inl h
  · refine .inr ⟨g, cap, cur, e, hg, ?_, rest⟩
    rw [hb.block g ?_]
    · exact hh
    · rcases Nat.lt_or_ge g w.heap.size with hlt | hge
      · exact hlt
      · rw [Array.getElem?_eq_none hge] at hh; cases hh
theorem own_reads {B : Nat} {a : Option Addr} {cap : Nat} {l : List Nat} {w : World} (h : Own B (.slice a l.length cap) l w) (hl : 0 < l.length) : Reads (.slice a l.length cap) (sv l) w :=
  fun _ hb => own_conv (own_later h hb) hl
theorem num_reads (n : Int) (h1 : -9223372036854775808 ≤ n) (h2 : n ≤ 9223372036854775807) (w : World) :
    Calls Try.prog 9 #[.int .i64 n] w fun e w' => ∃ a c cap, e = .returned (.slice a c cap) ∧ Below w.heap.size w w' ∧ Reads (.slice a c cap) (sv (vb (zz n))) w' :=
  (num_any n h1 h2 w).mono fun e w' ⟨v, he, ho, hb⟩ => by
    obtain ⟨a, cap, rfl⟩ := own_form ho
    exact ⟨a, _, cap, he, hb, own_reads ho (vb_pos _)⟩
theorem str_reads (s : ByteArray) (hs : s.size ≤ 5000) (w : World) :
    Calls Try.prog 11 #[.string s] w fun e w' => ∃ a c cap, e = .returned (.slice a c cap) ∧ Below w.heap.size w w' ∧ Reads (.slice a c cap) (sv (vb (zz (s.size : Int)) ++ bytesOf s)) w' :=
  (str_any s hs w).mono fun e w' ⟨v, he, ho, hb⟩ => by
    obtain ⟨a, cap, rfl⟩ := own_form ho
    exact ⟨a, _, cap, he, hb, own_reads ho (by have := vb_pos (zz (s.size : Int)); rw [List.length_append]; omega)⟩

theorem chain2 {a b c : World} (h : Below a.heap.size a b) (k : Below b.heap.size b c) : Below a.heap.size a c := h.trans (k.mono h.size)
theorem chain5 {a b c d e f : World} (h1 : Below a.heap.size a b) (h2 : Below b.heap.size b c) (h3 : Below c.heap.size c d) (h4 : Below d.heap.size d e) (h5 : Below e.heap.size e f) : Below a.heap.size a f :=
  chain2 h1 (chain2 h2 (chain2 h3 (chain2 h4 h5)))
set_option maxRecDepth 20000 in
set_option maxHeartbeats 2000000 in
theorem wireWrites_walk (n : Int) (s : ByteArray) (h1 : -9223372036854775808 ≤ n) (h2 : n ≤ 9223372036854775807) (w : World) :
    Calls Try.prog 3 #[.int .i64 n, .string s] w fun e w' => e = .returned (.bool true) ∧ Below w.heap.size w w' := by
  by_cases hs : s.size ≤ 3000
  · have H1 := Lib.hid (num_reads n h1 h2)
    have H2 := Lib.hid (refNum_any n h1 h2)
    have H3 := Lib.hid (str_reads s (by omega))
    have H4 := Lib.hid (refStr_any s (by omega))
    generalize sv (vb (zz n)) = t1 at *
    generalize sv (vb (zz (s.size : Int)) ++ bytesOf s) = t2 at *
    go_enter Try.func3, Try.ntmps3
    go_wp2_with fail
    go_region_with (first
      | (go_at_call 8; refine (wires_any _).mono ?_; rintro e w1 ⟨rfl, hb1⟩)
      | (go_at_call 9; refine (H1.out _).mono ?_; rintro e w2 ⟨a1, c1, cap1, rfl, hb2, hr2⟩; have hc2 := hr2 _ (Below.refl _ _))
      | (go_at_call 10; refine (H2.out _).mono ?_; rintro e w3 ⟨rfl, hb3⟩; try (have hc3 := hr2 _ hb3))
      | (go_at_call 11; refine (H3.out _).mono ?_; rintro e w4 ⟨a2, c2, cap2, rfl, hb4, hr4⟩; have hc4 := hr4 _ (Below.refl _ _))
      | (go_at_call 12; refine (H4.out _).mono ?_; rintro e w5 ⟨rfl, hb5⟩; try (have hc5 := hr4 _ hb5)))
    all_goals
      go_wp2
      go_ret
      exact ⟨rfl, ((Below.refl _ w).drew).trans (chain5 hb1 hb2 hb3 hb4 hb5)⟩
  · have hs' : (3000 : Int) < (s.size : Int) := by omega
    go_enter Try.func3, Try.ntmps3
    go_wp2_with (go_at_call 8; refine (wires_any _).mono ?_; rintro e w1 ⟨rfl, hb1⟩)
    go_ret
    exact ⟨rfl, hb1⟩
end Go.Proofs.Ytflgodphphbbjaa
