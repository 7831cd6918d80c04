/- A text between quotes. -/
import Derived.Test.YtpacjcgpeomnaaaDoorValE
import Derived.Deep.RegionHeld3
import Derived.Deep.AppendLies
namespace Go.Proofs.YtpacjcgpeomnaaaDoor
open Go.ChangeShapes Go.WideShapes Go.ChangeAt Go.RowKit
open Go.Proofs.YtpacjcgpeomnaaaDoor.Fw (zz vb bytesOf cells)
set_option linter.unusedVariables false
set_option maxRecDepth 20000

theorem app_at {B : Nat} {w : World} {v : Value} {l : List Nat} (h : Fw.Own B v l w) (hB : B ≤ w.heap.size) (bs : List Nat) (hn : l.length + bs.length ≤ 1000000000) (cs : Array Value) (hcs : cs.toList = cells bs) (m : Nat) (hm : m = bs.length) (g : Nat) (h9 : w.heap[g]? = some (.cells cs 5 (0, 0))) (ty : TypeId) :
    ∃ v' w', (Builtin.append_ #[29, 29] ty #[v, .slice (some ⟨g, 0, none⟩) m m]).run Tryd.prog w = .ok v' w' ∧ Fw.Own B v' (l ++ bs) w' ∧ Below B w w' ∧ w.grownBy w' v.ownBlock := by
  obtain ⟨i0, hi, hz0, hz1, hz2⟩ := info_parts Fw.info8
  subst hm
  obtain ⟨v', w', hr, a1, a2, _⟩ := run_append_own (P := Tryd.prog) _ B 29 ty 5 i0 _ 1 1 Tryd.underlying29 hi hz0 hz1 hz2 rfl (by decide) v l.length _ h ⟨g, 0, none⟩ bs.length bs.length (cells bs) (by simp [cells]) (fun j u hj => by
    have hadd : (⟨g, 0, none⟩ : Addr).add j = ⟨g, j, none⟩ := by unfold Addr.add; split <;> simp_all
    rw [hadd]
    simp only [World.cell?, h9]
    rw [← Array.getElem?_toList, hcs]
    exact hj) (fun u hu => Fw.cells_one bs u hu) (by unfold maxLen; omega) (by omega) hB
  refine ⟨v', w', hr, ?_, (Below.refl B _).grown a2 hB fun k hk => Fw.own_ge h hk, a2⟩
  unfold Fw.Own
  rw [List.length_append, show cells (l ++ bs) = cells l ++ cells bs by simp [cells]]
  exact a1
theorem app_new {B : Nat} {w : World} {v : Value} {l : List Nat} (h : Fw.Own B v l w) (hB : B ≤ w.heap.size) (bs : List Nat) (hn : l.length + bs.length ≤ 1000000000) (cs : Array Value) (hcs : cs.toList = cells bs) (m : Nat) (hm : m = bs.length) (ty : TypeId) :
    ∃ v' w', (Builtin.append_ #[29, 29] ty #[v, .slice (some ⟨w.heap.size, 0, none⟩) m m]).run Tryd.prog (w.alloc (.cells cs 5)) = .ok v' w' ∧ Fw.Own B v' (l ++ bs) w' ∧ Below B w w' := by
  have hal : Below w.heap.size w (w.alloc (.cells cs 5)) := (Below.refl _ _).alloc (Nat.le_refl _) _
  obtain ⟨v', w', hr, a1, a2, _⟩ := app_at (Fw.own_later h hal) (Nat.le_trans hB hal.size) bs hn cs hcs m hm w.heap.size (World.alloc_heap_new w _) ty
  exact ⟨v', w', hr, a1, (hal.mono hB).trans a2⟩
theorem own_one (w : World) (b : Nat) : Fw.Own w.heap.size (.slice (some ⟨w.heap.size, 0, none⟩) 1 1) [b] (w.alloc (.cells #[.int .u8 (b : Int)] 5)) :=
  ⟨rfl, .inr ⟨w.heap.size, 1, #[.int .u8 (b : Int)], rfl, Nat.le_refl _, World.alloc_heap_new w _, Nat.le_refl _, by unfold maxLen; decide, rfl, rfl⟩⟩
/-- a digit of base 16 -/
def hexD (n : Nat) : Nat := (Fn.hexS.data.toList.getD n 0).toNat
def hxD : ByteArray := { data := #[48, 49, 50, 51, 52, 53, 54, 55, 56, 57, 97, 98, 99, 100, 101, 102] }
theorem index_hex8 (n : Nat) (h : n < 16) : ∀ w, (Instr.index 9 (.string hxD) (.int .u8 (n : Int))).run Tryd.prog w = .ok (.int .u8 (hexD n : Int)) w := by
  intro w
  have : n = 0 ∨ n = 1 ∨ n = 2 ∨ n = 3 ∨ n = 4 ∨ n = 5 ∨ n = 6 ∨ n = 7 ∨ n = 8 ∨ n = 9 ∨ n = 10 ∨ n = 11 ∨ n = 12 ∨ n = 13 ∨ n = 14 ∨ n = 15 := by omega
  rcases this with rfl | rfl | rfl | rfl | rfl | rfl | rfl | rfl | rfl | rfl | rfl | rfl | rfl | rfl | rfl | rfl <;> (show _ = _; kernel_rfl)
theorem hexD_lt (n : Nat) : hexD n < 256 := (Fn.hexS.data.toList.getD n 0).toNat_lt
theorem and15 (c : Nat) (hc : c < 256) : bits .and .u8 (c : Int) 15 = ((c % 16 : Nat) : Int) := by
  have key : ∀ y : Fin 256, bits .and .u8 ((y.val : Nat) : Int) 15 = ((y.val % 16 : Nat) : Int) := by decide +kernel
  exact key ⟨c, hc⟩
/-- what a byte is between quotes -/
def qB (c : Nat) : List Nat := if c = 34 ∨ c = 92 then [92, c] else if c < 32 ∨ 126 < c then [92, 120, hexD (c / 16), hexD (c % 16)] else [c]
def quoteN (l : List Nat) : List Nat := 34 :: l.flatMap qB ++ [34]
theorem qB_len (c : Nat) : (qB c).length ≤ 4 := by unfold qB; split <;> (try split) <;> simp
theorem qs_len : ∀ l : List Nat, (l.flatMap qB).length ≤ 4 * l.length
  | [] => by simp
  | c :: l => by have := qs_len l; have h2 := qB_len c; rw [List.flatMap_cons, List.length_append, List.length_cons]; omega
theorem take_step (t : ByteArray) (k : Nat) (h : k < t.size) : (bytesOf t).take (k + 1) = (bytesOf t).take k ++ [t[k].toNat] := by
  have h2 : k < (bytesOf t).length := by rw [Fw.bytesOf_len]; exact h
  rw [List.take_succ_eq_append_getElem h2]
  congr 2
  simp [bytesOf]
  rfl
set_option maxHeartbeats 8000000 in
theorem quote_any (t : ByteArray) (ht : t.size ≤ 5000) (w : World) :
    Calls Tryd.prog 63 #[.string t] w fun e w' => e = .returned (.string (Fw.sv (quoteN (bytesOf t)))) ∧ Hid (Below w.heap.size w w') := by
  have HT : Hid (∀ k (h : k < t.size), (bytesOf t).take (k + 1) = (bytesOf t).take k ++ [t[k].toNat]) := Lib.hid fun k h => take_step t k h
  have HE : Hid ((bytesOf t).take t.size = bytesOf t) := Lib.hid (by rw [List.take_of_length_le (by rw [Fw.bytesOf_len]; omega)])
  have HLn : Hid (∀ k, (((bytesOf t).take k).flatMap qB).length ≤ 4 * t.size) := Lib.hid fun k => by
    have := qs_len ((bytesOf t).take k)
    have h2 : ((bytesOf t).take k).length ≤ t.size := by rw [List.length_take, Fw.bytesOf_len]; omega
    omega
  obtain ⟨R, hR⟩ : ∃ R, bytesOf t = R := ⟨_, rfl⟩
  rw [hR] at HT HE HLn ⊢
  clear hR
  have H1 := Lib.hid (own_one w 34)
  go_enter Tryd.func63, Tryd.ntmps63
  go_wp2
  go_loopw [3, 9] (fun v i wr => ∃ k : Nat, i = .int .i64 (k : Int) ∧ k ≤ t.size ∧ ∃ (ap : Option Addr) (n c : Nat), v = .slice ap n c ∧ Hid (n = (34 :: (R.take k).flatMap qB).length ∧ Fw.Own w.heap.size (.slice ap n c) (34 :: (R.take k).flatMap qB) wr) ∧ Hid (Below w.heap.size w wr)) (fun _ i _ => t.size - (intOf i).toNat)
  case atStart => exact ⟨0, rfl, Nat.zero_le _, _, _, _, rfl, Lib.hid ⟨rfl, H1.out⟩, Lib.hid ((Below.refl _ _).alloc (Nat.le_refl _) _)⟩
  case round =>
    obtain ⟨k, rfl, hk, ap, n, c, rfl, HO, HB⟩ := hrel
    by_cases hlt : k < t.size
    · have hstep := HT.out k hlt
      obtain ⟨x, hx⟩ : ∃ x, (t[k]'hlt).toNat = x := ⟨_, rfl⟩
      have hx2 : x < 256 := by rw [← hx]; exact (t[k]'hlt).toNat_lt
      rw [hx] at hstep
      have hix : ∀ W, (Instr.index 9 (.string t) (.int .i64 (k : Int))).run Tryd.prog W = .ok (.int .u8 (x : Int)) W := fun W => by
        rw [run_index_string W 9 t .i64 k Tryd.underlying9, dif_pos (by omega)]
        simp only [Int.toNat_natCast, hx]
      have HS := Lib.hid (show 34 :: (R.take (k + 1)).flatMap qB = (34 :: (R.take k).flatMap qB) ++ qB x by rw [hstep, List.flatMap_append]; simp)
      have HSz : Hid (w.heap.size ≤ wr.heap.size ∧ (34 :: (R.take k).flatMap qB).length ≤ 20001) := Lib.hid ⟨HB.out.size, by rw [List.length_cons]; have := HLn.out k; omega⟩
      obtain ⟨L, hL⟩ : ∃ L, 34 :: (R.take k).flatMap qB = L := ⟨_, rfl⟩
      rw [hL] at HO HS HSz
      have HQ := Lib.hid (qB_len x)
      clear hx hstep hL HT
      by_cases h1 : x = 34 ∨ x = 92
      · have hq : Hid (qB x = [92, x]) := Lib.hid (by unfold qB; rw [if_pos h1])
        obtain ⟨v', w4, hrun, hv4, hb4⟩ := app_new HO.out.2 HSz.out.1 [92, x] (by have := HSz.out.2; simp; omega) #[.int .u8 92, .int .u8 (x : Int)] rfl 2 rfl 29
        obtain ⟨a4, c4, rfl⟩ := Fw.own_form hv4
        have HF := Lib.hid (show Fw.Own w.heap.size (.slice a4 (L ++ [92, x]).length c4) (34 :: (R.take (k + 1)).flatMap qB) w4 ∧ (L ++ [92, x]).length = (34 :: (R.take (k + 1)).flatMap qB).length from ⟨by rw [HS.out, hq.out]; exact hv4, by rw [HS.out, hq.out]⟩)
        have HB4 := Lib.hid (HB.out.trans hb4)
        obtain ⟨n4, hn4⟩ : ∃ n, (L ++ [92, x]).length = n := ⟨_, rfl⟩
        rw [hn4] at hrun HF
        have h1b : (((x : Int) == 34) || ((x : Int) == 92)) = true := by simp; omega
        have h1c : ¬ ((x : Int) == 34) = true → ((x : Int) == 92) = true := by simp; omega
        clear hv4 hb4 HO HB HS hq HSz HQ hn4 h1b
        by_cases h34 : x = 34
        · have hb : ((x : Int) == 34) = true := by simp; omega
          clear h34 h1 h1c
          go_wp2_with (at_builtin; refine Lib.wpList_append_run _ rfl _ _ _ _ rfl _ _ rfl rfl _ _ hrun ?_)
          go_roundw
          case rel => exact ⟨k + 1, by go_num, by omega, _, _, _, rfl, Lib.hid ⟨HF.out.2, HF.out.1⟩, HB4⟩
          case measure => simp [intOf]; omega
        · have hb : ((x : Int) == 34) = false := by simp; omega
          have hb2 : ((x : Int) == 92) = true := by simp; omega
          clear h34 h1 h1c
          go_wp2_with (at_builtin; refine Lib.wpList_append_run _ rfl _ _ _ _ rfl _ _ rfl rfl _ _ hrun ?_)
          go_roundw
          case rel => exact ⟨k + 1, by go_num, by omega, _, _, _, rfl, Lib.hid ⟨HF.out.2, HF.out.1⟩, HB4⟩
          case measure => simp [intOf]; omega
      · have hb : ((x : Int) == 34) = false := by simp; omega
        have hb2 : ((x : Int) == 92) = false := by simp; omega
        by_cases h2 : x < 32 ∨ 126 < x
        · have hq : Hid (qB x = [92, 120, hexD (x / 16), hexD (x % 16)]) := Lib.hid (by unfold qB; rw [if_neg h1, if_pos h2])
          obtain ⟨xh, hxh⟩ : ∃ y, x / 16 = y := ⟨_, rfl⟩
          obtain ⟨xl, hxl⟩ : ∃ y, x % 16 = y := ⟨_, rfl⟩
          have hsh : (x : Int) / 16 = (xh : Int) := by omega
          have hand : bits .and .u8 (x : Int) 15 = (xl : Int) := by rw [and15 x hx2, hxl]
          have hih := index_hex8 xh (by omega)
          have hil := index_hex8 xl (by omega)
          unfold hxD at hih hil
          obtain ⟨p, hp⟩ : ∃ p, hexD xh = p := ⟨_, rfl⟩
          obtain ⟨q, hq2⟩ : ∃ p, hexD xl = p := ⟨_, rfl⟩
          rw [hp] at hih
          rw [hq2] at hil
          rw [hxh, hxl, hp, hq2] at hq
          obtain ⟨L4, hL4⟩ : ∃ l, L ++ [92, 120, p, q] = l := ⟨_, rfl⟩
          have HF : Hid (34 :: (R.take (k + 1)).flatMap qB = L4) := Lib.hid (by rw [HS.out, hq.out, hL4])
          have HL4 : Hid (∀ W g cap, W.ownsRow w.heap.size 5 1 (.slice (some ⟨g, 0, none⟩) (n + 4) cap) (n + 4) (cells L ++ [.int .u8 92, .int .u8 120, .int .u8 (p : Int), .int .u8 (q : Int)]) → Fw.Own w.heap.size (.slice (some ⟨g, 0, none⟩) (n + 4) cap) L4 W ∧ n + 4 = L4.length) := Lib.hid fun W g cap h => by
            have e : L4.length = n + 4 := by rw [← hL4, List.length_append, HO.out.1]; rfl
            refine ⟨?_, e.symm⟩
            unfold Fw.Own
            rw [e, ← hL4, show cells (L ++ [92, 120, p, q]) = cells L ++ [.int .u8 92, .int .u8 120, .int .u8 (p : Int), .int .u8 (q : Int)] by simp [cells]]
            exact h
          have hown : wr.ownsRow w.heap.size 5 1 (.slice ap n c) n (cells L) := by
            have h := HO.out.2
            unfold Fw.Own at h
            rw [← HO.out.1] at h
            exact h
          obtain ⟨i0, hi0, hz0, hz1, hz2⟩ := info_parts Fw.info8
          have hbase := HSz.out.1
          have hn20 : n ≤ 20001 := by rw [HO.out.1]; exact HSz.out.2
          have HOwn := Lib.hid hown
          have HBo : Hid (∀ W, wr.grownBy W none → True) := Lib.hid fun _ _ => trivial
          have h3 : ((x : Int) < 32) ∨ ((126 : Int) < (x : Int)) := by omega
          clear h1 hL4 hq HS HQ hxh hxl hp hq2 HO
          by_cases h5 : x < 32
          · have h5I : (x : Int) < 32 := by omega
            clear h2 h3 h5
            go_wp2
            go_region_held3 (fun w' => True)
              (first | go_keep | trivial)
              ((refine step_append_lies _ (by rfl) _ _ _ (by rfl) w.heap.size 5 i0 _ 1 1 Tryd.underlying29 hi0 hz0 hz1 hz2 rfl (by decide) (.slice ap n c) n (cells L) (by rfl) ((hown.alloc _).drew)
                  ⟨wr.heap.size, 0, none⟩ 4 4 [.int .u8 92, .int .u8 120, .int .u8 (p : Int), .int .u8 (q : Int)] (by rfl) (by rfl) (World.news_of_block (cs := #[.int .u8 92, .int .u8 120, .int .u8 (p : Int), .int .u8 (q : Int)]) (t := 5) (fr := (0, 0)) (heap_alloc_new wr _)) (by simp [Value.oneCell'])
                  (by omega) (by unfold maxLen; omega) (by omega) (by simp; omega) (wr.heap.size + 1) (by simp) ?_; intro gg cap w1 hown1 hgrow hat hlt2))
            all_goals
              have hbw : Below w.heap.size w w1 := by
                refine Below.grown ?_ hgrow (by simp; omega) fun k hk => (hown.lt k hk).1
                have h9 := HB.out.alloc hbase (.cells #[.int .u8 92, .int .u8 120, .int .u8 (p : Int), .int .u8 (q : Int)] 5)
                exact ⟨h9.os, h9.tape, h9.output, h9.size, h9.block⟩
              have HBW := Lib.hid hbw
              have HOW := Lib.hid (HL4.out _ _ _ hown1)
              clear hbw hown1 hgrow hat hlt2 hown hih hil hand hsh
              go_wp2
              refine ⟨⟨k + 1, by go_num, by omega, _, _, _, rfl, Lib.hid ⟨by rw [HF.out]; exact HOW.out.2, by rw [HF.out]; exact HOW.out.1⟩, HBW⟩, by simp [intOf]; omega⟩
          · have h5I : ¬ ((x : Int) < 32) := by omega
            have h6I : (126 : Int) < (x : Int) := by omega
            clear h2 h3 h5
            go_wp2
            go_region_held3 (fun w' => True)
              (first | go_keep | trivial)
              ((refine step_append_lies _ (by rfl) _ _ _ (by rfl) w.heap.size 5 i0 _ 1 1 Tryd.underlying29 hi0 hz0 hz1 hz2 rfl (by decide) (.slice ap n c) n (cells L) (by rfl) ((hown.alloc _).drew)
                  ⟨wr.heap.size, 0, none⟩ 4 4 [.int .u8 92, .int .u8 120, .int .u8 (p : Int), .int .u8 (q : Int)] (by rfl) (by rfl) (World.news_of_block (cs := #[.int .u8 92, .int .u8 120, .int .u8 (p : Int), .int .u8 (q : Int)]) (t := 5) (fr := (0, 0)) (heap_alloc_new wr _)) (by simp [Value.oneCell'])
                  (by omega) (by unfold maxLen; omega) (by omega) (by simp; omega) (wr.heap.size + 1) (by simp) ?_; intro gg cap w1 hown1 hgrow hat hlt2))
            all_goals
              have hbw : Below w.heap.size w w1 := by
                refine Below.grown ?_ hgrow (by simp; omega) fun k hk => (hown.lt k hk).1
                have h9 := HB.out.alloc hbase (.cells #[.int .u8 92, .int .u8 120, .int .u8 (p : Int), .int .u8 (q : Int)] 5)
                exact ⟨h9.os, h9.tape, h9.output, h9.size, h9.block⟩
              have HBW := Lib.hid hbw
              have HOW := Lib.hid (HL4.out _ _ _ hown1)
              clear hbw hown1 hgrow hat hlt2 hown hih hil hand hsh
              go_wp2
              refine ⟨⟨k + 1, by go_num, by omega, _, _, _, rfl, Lib.hid ⟨by rw [HF.out]; exact HOW.out.2, by rw [HF.out]; exact HOW.out.1⟩, HBW⟩, by simp [intOf]; omega⟩
        · have hq : Hid (qB x = [x]) := Lib.hid (by unfold qB; rw [if_neg h1, if_neg h2])
          obtain ⟨v', w4, hrun, hv4, hb4⟩ := app_new HO.out.2 HSz.out.1 [x] (by have := HSz.out.2; simp; omega) #[.int .u8 (x : Int)] rfl 1 rfl 29
          obtain ⟨a4, c4, rfl⟩ := Fw.own_form hv4
          have HF := Lib.hid (show Fw.Own w.heap.size (.slice a4 (L ++ [x]).length c4) (34 :: (R.take (k + 1)).flatMap qB) w4 ∧ (L ++ [x]).length = (34 :: (R.take (k + 1)).flatMap qB).length from ⟨by rw [HS.out, hq.out]; exact hv4, by rw [HS.out, hq.out]⟩)
          have HB4 := Lib.hid (HB.out.trans hb4)
          obtain ⟨n4, hn4⟩ : ∃ n, (L ++ [x]).length = n := ⟨_, rfl⟩
          rw [hn4] at hrun HF
          have h3 : ¬ ((x : Int) < 32) := by omega
          have h4 : ¬ ((126 : Int) < (x : Int)) := by omega
          clear hv4 hb4 HO HB HS hq HSz HQ hn4 h1 h2
          go_wp2_with (at_builtin; refine Lib.wpList_append_run _ rfl _ _ _ _ rfl _ _ rfl rfl _ _ hrun ?_)
          go_roundw
          case rel => exact ⟨k + 1, by go_num, by omega, _, _, _, rfl, Lib.hid ⟨HF.out.2, HF.out.1⟩, HB4⟩
          case measure => simp [intOf]; omega
    · obtain rfl : k = t.size := by omega
      obtain ⟨v', w4, hrun, hv4, hb4⟩ := app_new HO.out.2 HB.out.size [34] (by rw [List.length_cons]; have := HLn.out t.size; show _ + 1 + 1 ≤ _; omega) #[.int .u8 34] rfl 1 rfl 29
      rw [HE.out] at hv4
      have hv4 : Fw.Own w.heap.size v' (quoteN R) w4 := hv4
      obtain ⟨a4, c4, rfl⟩ := Fw.own_form hv4
      have hcv := Fw.own_conv hv4 (by unfold quoteN; simp)
      have HB4 := Lib.hid (HB.out.trans hb4)
      obtain ⟨n4, hn4⟩ : ∃ n, (quoteN R).length = n := ⟨_, rfl⟩
      rw [hn4] at hrun hcv
      clear hv4 hb4 HO HB HLn hn4 HE
      go_wp2_with (at_builtin; refine Lib.wpList_append_run _ rfl _ _ _ _ rfl _ _ rfl rfl _ _ hrun ?_)
      go_ret
      exact ⟨rfl, HB4⟩
end Go.Proofs.YtpacjcgpeomnaaaDoor
