/- A value's text: the walks. -/
import Derived.Test.YtpacjcgpeomnaaaDoorValX
namespace Go.Proofs.YtpacjcgpeomnaaaDoor
open Go.ChangeShapes Go.WideShapes Go.ChangeAt Go.RowKit
open Go.Proofs.YtpacjcgpeomnaaaDoor.Fw (zz vb bytesOf cells)
open Go.Proofs.YtpacjcgpeomnaaaDoor.Fd (st st_size)
set_option linter.unusedVariables false
set_option maxRecDepth 20000

def Tab (w : World) : Prop := Lib.TabIs Tryd.prog w "internal/strconv.uint64pow10" .u64 Lib.pow10Tab
theorem tab_later {w W : World} (h : Tab w) (hb : Below w.heap.size w W) : Tab W := by
  unfold Tab Lib.TabIs World.var? at *
  cases hg : Tryd.prog.globalNamed "internal/strconv.uint64pow10" with
  | none => simp [hg] at h
  | some g =>
    simp only [hg, Option.bind_some] at h ⊢
    have hlt : g < w.heap.size := by
      rcases Nat.lt_or_ge g w.heap.size with h' | h'
      · exact h'
      · rw [Array.getElem?_eq_none h'] at h; simp at h
    rw [hb.block g hlt]
    exact h
theorem st_add (a b : List UInt8) (h : a.length + b.length ≤ 9000000000000000000) : ∀ w, (Op.stringOp .add (st a) (st b)).run Tryd.prog w = .ok (.string (st (a ++ b))) w := fun w => by
  rw [run_string_add_sum w _ _ (by rw [st_size, st_size]; omega), Fd.st_append]
/-- what is said of a value's text -/
def TextOk (n₀ : Nat) (x : V) : Prop := ∀ W : World, Lies (· < n₀) W x → n₀ ≤ W.heap.size → Tab W → Calls Tryd.prog 38 #[x.val] W fun e w' => e = .returned (.string (st (textT (er x)))) ∧ Hid (Below W.heap.size W w')
def mixS (d : List ByteArray) (m : Nat) : Array Value := ((d.map Value.string) ++ List.replicate m (Value.string ⟨#[]⟩)).toArray
theorem mixS_at (d : List ByteArray) (m : Nat) (h : 0 < m) : (mixS d m)[d.length]? = some (.string ⟨#[]⟩) := by
  unfold mixS
  rw [List.getElem?_toArray, List.getElem?_append_right (by simp)]
  simp [h]
theorem mixS_lo (d : List ByteArray) (m i : Nat) (s : ByteArray) (h : d[i]? = some s) : (mixS d m)[i]? = some (.string s) := by
  unfold mixS
  have hlt := (List.getElem?_eq_some_iff.1 h).1
  rw [List.getElem?_toArray, List.getElem?_append_left (by simpa using hlt), List.getElem?_map, h]
  rfl
theorem infoS : (Tryd.prog.info? 9).map (fun i => (i.zero, i.size, i.bytes)) = some (some (.string ⟨#[]⟩), 1, 16) := by kernel_rfl
theorem mk_strs (n : Nat) (hn : n ≤ 1000000) (w : World) : (Instr.makeSlice 98 (.int .i64 (n : Int)) (.int .i64 (n : Int))).run Tryd.prog w = .ok (.slice (some ⟨w.heap.size, 0, none⟩) n n) (w.alloc (.cells (mixS [] n) 9)) := by
  obtain ⟨i0, hi, hz0, hz1, hz2⟩ := info_parts infoS
  have h := run_makeSlice (P := Tryd.prog) w 98 9 i0 (.string ⟨#[]⟩) Tryd.underlying98 hi hz0 .i64 .i64 (n : Int) (n : Int) (by omega) (Int.le_refl _) (by rw [hz1]; simp; omega) (by rw [hz2]; omega) (by omega)
  rw [hz1] at h
  simp only [Int.toNat_natCast, Nat.mul_one] at h
  rw [h]
  have e : madeCells (Value.string ⟨#[]⟩).cells n = mixS [] n := by
    unfold madeCells mixS
    apply Array.toList_inj.1
    rw [Array.toList_map, Array.toList_range]
    simp only [List.map_nil, List.nil_append]
    rw [List.eq_replicate_iff]
    refine ⟨by simp, fun b hb => ?_⟩
    obtain ⟨i, _, rfl⟩ := List.mem_map.1 hb
    show (#[Value.string ⟨#[]⟩])[i % 1]! = _
    rw [Nat.mod_one]
    rfl
  rw [e]
set_option maxHeartbeats 4000000 in
theorem list_any (n₀ : Nat) (ks : List V) (g o : Nat) (cap : Nat) (hcap : ks.length ≤ cap) (h8 : ks.length ≤ 8) (hin : ∀ x ∈ ks, InF (er x)) (hcn : T.cnts (ks.map er) ≤ 100000) (ih : ∀ x ∈ ks, TextOk n₀ x) (W : World) (a : Option Addr) (ha : ks ≠ [] → a = some ⟨g, o, none⟩) (hg : ks ≠ [] → g < n₀) (hr : Row (· < n₀) W g o ks) (hn : n₀ ≤ W.heap.size) (ht : Tab W) :
    Calls Tryd.prog 64 #[.slice a ks.length cap] W fun e w' => e = .returned (.string (st (listT (ks.map er)))) ∧ Hid (Below W.heap.size W w') := by
  have HM := Lib.hid (fun W => mk_strs ks.length (by omega) W)
  have HR := Lib.hid hr
  have HT := Lib.hid ht
  have HIh := Lib.hid ih
  have HIn := Lib.hid hin
  have HCn := Lib.hid hcn
  have hmk := HM.out W
  obtain ⟨W1, hW1⟩ : ∃ W1, W.alloc (.cells (mixS [] ks.length) 9) = W1 := ⟨_, rfl⟩
  have hB1 : Below W.heap.size W W1 := by rw [← hW1]; exact (Below.refl _ _).alloc (Nat.le_refl _) _
  have hbox : W1.heap[W.heap.size]? = some (.cells (mixS [] ks.length) 9 (0, 0)) := by rw [← hW1]; exact World.alloc_heap_new W _
  rw [hW1] at hmk
  have HB1 := Lib.hid (show Below W.heap.size W W1 ∧ W1.heap[W.heap.size]? = some (.cells (mixS [] ks.length) 9 (0, 0)) ∧ W.heap.size + 1 = W1.heap.size from ⟨hB1, hbox, by rw [← hW1]; simp⟩)
  have hl8 : (ks.length : Int) ≤ 8 := by omega
  have HG := Lib.hid (show (ks ≠ [] → g < n₀) ∧ n₀ ≤ W.heap.size from ⟨hg, hn⟩)
  have HA := Lib.hid ha
  obtain ⟨m, hm⟩ : ∃ m, ks.length = m := ⟨_, rfl⟩
  have HMl := Lib.hid (fun _ : True => hm)
  rw [hm] at hmk hl8 HB1 hcap ⊢
  clear hr ht ih hin hcn hW1 hB1 hbox HM hg hn ha h8 hm
  go_enter Tryd.func64, Tryd.ntmps64
  go_wp2
  go_loopw [11] (fun i wr => ∃ (j : Nat) (d : List ByteArray), i = .int .i64 (j : Int) ∧ j ≤ m ∧ Hid (d = (ks.take j).map (fun x => st (textT (er x)))) ∧ Hid (wr.heap[W.heap.size]? = some (.cells (mixS d (m - j)) 9 (0, 0))) ∧ Hid (Below W.heap.size W wr ∧ W1.heap.size ≤ wr.heap.size)) (fun i _ => m - (intOf i).toNat)
  case atStart => exact ⟨0, [], rfl, Nat.zero_le _, Lib.hid rfl, Lib.hid HB1.out.2.1, Lib.hid ⟨HB1.out.1, Nat.le_refl _⟩⟩
  case round =>
    obtain ⟨j, d, rfl, hj, HD, HX, HB⟩ := hrel
    by_cases hlt : j < m
    · have hlt2 : j < ks.length := by rw [HMl.out trivial]; exact hlt
      have hne : ks ≠ [] := fun e => by rw [e] at hlt2; simp at hlt2
      obtain rfl : a = some ⟨g, o, none⟩ := HA.out hne
      obtain ⟨hat, hli⟩ : At4 W g (o + 4 * j) ks[j] ∧ Lies (· < n₀) W ks[j] := HR.out.get j hlt2
      have hmem : ks[j] ∈ ks := List.getElem_mem hlt2
      have htk : ks.take (j + 1) = ks.take j ++ [ks[j]] := List.take_succ_eq_append_getElem hlt2
      have hb0 : Below n₀ W wr := HB.out.1.mono HG.out.2
      obtain ⟨d0, d1, d2, d3⟩ := hat.same (hb0.block g (HG.out.1 hne))
      obtain ⟨x, hx⟩ : ∃ x, ks[j] = x := ⟨_, rfl⟩
      rw [hx] at hli hmem htk d0 d1 d2 d3
      rw [show o + 4 * j = o + j * 4 by omega] at d0 d1 d2 d3
      obtain ⟨W3, hW3⟩ : ∃ W3, wr.alloc (.cells #[.int .i64 x.k, .int .i64 x.n, .string x.t, .slice x.a x.ks.length x.cap] 24) = W3 := ⟨_, rfl⟩
      have hB3 : Below wr.heap.size wr W3 := by rw [← hW3]; exact (Below.refl _ _).alloc (Nat.le_refl _) _
      obtain ⟨b0, b1, b2, b3⟩ := box4 (show W3.heap[wr.heap.size]? = some (.cells #[.int .i64 x.k, .int .i64 x.n, .string x.t, .slice x.a x.ks.length x.cap] 24 (0, 0)) by rw [← hW3]; exact World.alloc_heap_new wr _)
      have hn3 : n₀ ≤ wr.heap.size := Nat.le_trans HG.out.2 HB.out.1.size
      have hC := HIh.out x hmem W3 ((hli.below hb0).below (hB3.mono hn3)) (Nat.le_trans hn3 hB3.size) (tab_later (tab_later HT.out HB.out.1) hB3)
      unfold V.val at hC
      have HC := Lib.hid hC
      have HX3 : Hid (W3.heap[W.heap.size]? = some (.cells (mixS d (m - j)) 9 (0, 0)) ∧ Below W.heap.size W W3 ∧ W1.heap.size ≤ W3.heap.size ∧ d.length = j) := Lib.hid ⟨by rw [hB3.block _ (Array.getElem?_eq_some_iff.1 HX.out).1]; exact HX.out, HB.out.1.trans (hB3.mono HB.out.1.size), Nat.le_trans HB.out.2 hB3.size, by rw [HD.out, List.length_map, List.length_take]; omega⟩
      have HD2 : Hid (d ++ [st (textT (er x))] = (ks.take (j + 1)).map (fun x => st (textT (er x)))) := Lib.hid (by rw [htk, List.map_append, HD.out]; rfl)
      clear hne hat hli hmem htk hb0 hx hB3 hn3 hC HD HX HB hlt2
      go_wp2_with fail
      refine HC.out.mono ?_
      rintro e w4 ⟨rfl, hb4⟩
      have hx4 : w4.heap[W.heap.size]? = some (.cells (mixS d (m - j)) 9 (0, 0)) := by rw [hb4.out.block _ (Array.getElem?_eq_some_iff.1 HX3.out.1).1]; exact HX3.out.1
      have hc4 : w4.cell? ⟨W.heap.size, j, none⟩ = some (.string ⟨#[]⟩) := by
        simp only [World.cell?, hx4]
        have := mixS_at d (m - j) (by omega)
        rw [HX3.out.2.2.2] at this
        exact this
      have hf4 : w4.frozen? ⟨W.heap.size, j, none⟩ = false := by simp [World.frozen?, hx4]
      obtain ⟨s, hs⟩ : ∃ s, st (textT (er x)) = s := ⟨_, rfl⟩
      rw [hs] at HD2 ⊢
      have HX5 : Hid ((w4.setCell ⟨W.heap.size, j, none⟩ (.string s)).heap[W.heap.size]? = some (.cells (mixS (d ++ [s]) (m - (j + 1))) 9 (0, 0))) := Lib.hid (by
        rw [Joins.block_setCell hx4]
        congr 2
        unfold mixS
        have h3 := HX3.out.2.2.2
        rw [show m - j = (m - (j + 1)) + 1 by omega, List.replicate_succ]
        apply Array.toList_inj.1
        simp only [Array.toList_setIfInBounds, List.map_append, List.append_assoc]
        rw [List.set_append_right _ _ (by simp [h3])]
        simp [h3])
      have HB5 : Hid (Below W.heap.size W (w4.setCell ⟨W.heap.size, j, none⟩ (.string s)) ∧ W1.heap.size ≤ (w4.setCell ⟨W.heap.size, j, none⟩ (.string s)).heap.size) := Lib.hid ⟨(HX3.out.2.1.trans (hb4.out.mono HX3.out.2.1.size)).setCell (p := ⟨W.heap.size, j, none⟩) (Nat.le_refl _) _, by simp [World.setCell]; exact Nat.le_trans HX3.out.2.2.1 hb4.out.size⟩
      clear hx4 hb4 hs HX3 HC
      go_wp2_with fail
      go_roundw
      case rel => exact ⟨j + 1, _, by go_num, by omega, HD2, HX5, HB5⟩
      case measure => simp [intOf]; omega
    · obtain rfl : j = m := by omega
      have hd : d.length = j := by rw [HD.out, List.length_map, List.length_take]; have := HMl.out trivial; omega
      have hdd : d = ks.map (fun x => st (textT (er x))) := by rw [HD.out, List.take_of_length_le (by have := HMl.out trivial; omega)]
      have hlist : d.map (·.data.toList) = (ks.map er).map textT := by rw [hdd, List.map_map, List.map_map]; apply List.map_congr_left; intro x _; rfl
      have hlen := list_len (ks.map er) (by rw [List.length_map]; have := HMl.out trivial; omega) (fun y hy => by
        obtain ⟨x, hx, rfl⟩ := List.mem_map.1 hy
        exact text_len _ (HIn.out x hx))
      have hjl : (Lib.join ((ks.map er).map textT) [44]).length ≤ 3000000000 := by
        unfold listT at hlen
        rw [List.length_append, List.length_cons] at hlen
        have := HCn.out
        omega
      have HJ : Hid (Calls Tryd.prog 71 #[.slice (some ⟨W.heap.size, 0, none⟩) j j, .string ⟨#[44]⟩] wr fun e w' => e = .returned (.string (st (Lib.join ((ks.map er).map textT) [44]))) ∧ Below wr.heap.size wr w') := Lib.hid (by
        have h := Tryd.strings_Join W.heap.size 0 j d ⟨#[44]⟩ wr (fun i s hi => by
          have h9 := HX.out
          simp only [World.cell?, h9]
          rw [Nat.zero_add]
          exact mixS_lo d _ i s hi) (Array.getElem?_eq_some_iff.1 HX.out).1 (by omega) (by omega) (by rw [hlist]; show (Lib.join _ [44]).length ≤ _; omega)
        rw [hd] at h
        refine h.mono fun e w' ⟨he, hb⟩ => ⟨?_, hb⟩
        rw [he, hlist]; rfl)
      obtain ⟨J, hJ⟩ : ∃ l, Lib.join ((ks.map er).map textT) [44] = l := ⟨_, rfl⟩
      have HL : Hid (listT (ks.map er) = 40 :: J ++ [41]) := Lib.hid (by unfold listT; rw [hJ])
      rw [hJ] at HJ hjl
      have ha1 := st_add [40] J (by simp; omega)
      have ha2 := st_add (40 :: J) [41] (by simp; omega)
      have HB2 := Lib.hid HB.out.1
      clear hd hdd hlist hlen hJ HD HX HB
      obtain ⟨s0, hs0⟩ : ∃ s, st J = s := ⟨_, rfl⟩
      obtain ⟨s1, hs1⟩ : ∃ s, st (40 :: J) = s := ⟨_, rfl⟩
      obtain ⟨s2, hs2⟩ : ∃ s, st (40 :: J ++ [41]) = s := ⟨_, rfl⟩
      rw [hs0, show [40] ++ J = 40 :: J from rfl, hs1] at ha1
      rw [hs1, hs2] at ha2
      rw [hs0] at HJ
      have HS2 := Lib.hid (fun _ : True => hs2)
      clear hs0 hs1 hs2
      unfold st at ha1 ha2
      go_wp2_with fail
      refine HJ.out.mono ?_
      rintro e w4 ⟨rfl, hb4⟩
      have HB4 := Lib.hid (HB2.out.trans (hb4.mono HB2.out.size))
      clear hb4
      go_wp2_with fail
      go_ret
      refine ⟨?_, HB4⟩
      show Ending.returned (.string s2) = _
      rw [HL.out, HS2.out trivial]
end Go.Proofs.YtpacjcgpeomnaaaDoor
