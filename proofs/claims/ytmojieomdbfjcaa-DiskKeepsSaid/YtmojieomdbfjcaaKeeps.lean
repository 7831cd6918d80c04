/- DiskKeeps: the walk. -/
import Derived.Test.YtmojieomdbfjcaaKeepA
import Derived.Deep.RegionHeld3
import Derived.Test.YtmojieomdbfjcaaReg
namespace Go.Proofs.Ytmojieomdbfjcaa
open Go.ChangeShapes Go.WideShapes Go.ChangeAt Go.RowKit

set_option maxHeartbeats 8000000 in
set_option maxRecDepth 20000 in
theorem diskKeeps_mid (sa : Option Addr) (La ca : Nat) (xs : Nat → Nat) (sb : Option Addr) (Lb cb : Nat) (mo : Nat → Nat) (sc : Option Addr) (Lc cc : Nat) (pk : Nat → Int) (w : World)
    (hxs : ∀ i, xs i < 256) (hmo : ∀ i, mo i < 256)
    (hA : Hid (∀ V, Below w.heap.size w V → ∀ i, i < La → ∃ g' o, sa = some ⟨g', o, none⟩ ∧ V.cell? ⟨g', o + i, none⟩ = some (.int .u8 (xs i : Int))))
    (hB : Hid (∀ V, Below w.heap.size w V → ∀ i, i < Lb → ∃ g' o, sb = some ⟨g', o, none⟩ ∧ V.cell? ⟨g', o + i, none⟩ = some (.int .u8 (mo i : Int))))
    (hC : Hid (∀ V, Below w.heap.size w V → ∀ i, i < Lc → ∃ g' o, sc = some ⟨g', o, none⟩ ∧ V.cell? ⟨g', o + i, none⟩ = some (.int .i64 (pk i)))) :
    Calls Try.prog 3 #[.slice sa La ca, .slice sb Lb cb, .slice sc Lc cc] w fun e w' => e = .returned (.bool true) ∧ Below w.heap.size w w' := by
  have HNew := new_any 8 (by decide) (by decide) w
  rw [zeros_texts] at HNew
  have HNew := Lib.hid HNew
  have HLasts := Lib.hid lasts_any
  have HFull := Lib.hid (fun x W => full_any x W)
  have Hxs := Lib.hid (fun i (_ : True) => hxs i)
  have Hmo := Lib.hid (fun i (_ : True) => hmo i)
  clear hxs hmo
  go_enter Try.func3, Try.ntmps3
  go_wp2_with fail
  refine HNew.out.mono ?_
  rintro e w1 ⟨g, gn, gl, cn, cl, rfl, hD, hB1'⟩
  have hD1 := Lib.hid hD
  have hB1 := Lib.hid hB1'
  clear hD hB1' HNew
  go_wp2_with fail
  refine (HLasts.out w1).mono ?_
  rintro e w2 ⟨rfl, hB2'⟩
  have hD2 := Lib.hid (hD1.out.below hB2')
  have hB2 := Lib.hid (hB1.out.trans (hB2'.mono hB1.out.size))
  clear hB2' hD1 hB1 HLasts
  go_wp2_with fail
  have hq3 : Hid (w.heap.size ≤ w2.heap.size) := Lib.hid hB2.out.size
  have hal : Below w2.heap.size w2 (w2.alloc (Obj.cells #[Value.int .u8 0, Value.int .u8 0, Value.int .u8 0, Value.int .u8 0, Value.int .u8 0, Value.int .u8 0, Value.int .u8 0, Value.int .u8 0] 29)) := (Below.refl _ _).alloc (Nat.le_refl _) _
  have hw3 : WasAt (w2.alloc (Obj.cells #[Value.int .u8 0, Value.int .u8 0, Value.int .u8 0, Value.int .u8 0, Value.int .u8 0, Value.int .u8 0, Value.int .u8 0, Value.int .u8 0] 29)) w2.heap.size (fun _ => 0) := ⟨29, Array.getElem?_push_size⟩
  have hlt3 : w2.heap.size < (w2.alloc (Obj.cells #[Value.int .u8 0, Value.int .u8 0, Value.int .u8 0, Value.int .u8 0, Value.int .u8 0, Value.int .u8 0, Value.int .u8 0, Value.int .u8 0] 29)).heap.size := by simp
  have hI3 : Hid (K1 w (w2.alloc (Obj.cells #[Value.int .u8 0, Value.int .u8 0, Value.int .u8 0, Value.int .u8 0, Value.int .u8 0, Value.int .u8 0, Value.int .u8 0, Value.int .u8 0] 29)) g gn gl cn cl w2.heap.size 0) := Lib.hid ⟨⟨_, [], fun _ => 0, hD2.out.below hal, rfl, by simp, Nat.le_refl _, ⟨Nat.ne_of_gt (head_lt hD2.out.head), by
    obtain ⟨cur, hq⟩ := own_type hD2.out.now
    exact Nat.ne_of_gt (Array.getElem?_eq_some_iff.1 hq).1, by
    obtain ⟨cur, hq⟩ := own_type hD2.out.rows
    exact Nat.ne_of_gt (Array.getElem?_eq_some_iff.1 hq).1, by simp [Value.ownBlock], hlt3⟩, hw3, by simp⟩, hB2.out.trans (hal.mono hB2.out.size)⟩
  generalize (w2.alloc (Obj.cells #[Value.int .u8 0, Value.int .u8 0, Value.int .u8 0, Value.int .u8 0, Value.int .u8 0, Value.int .u8 0, Value.int .u8 0, Value.int .u8 0] 29)) = w3 at *
  generalize w2.heap.size = q at *
  clear hal hw3 hlt3 hD2 hB2
  go_loopw [10] (fun i wr => ∃ k : Nat, i = .int .i64 (k : Int) ∧ k ≤ 40 ∧ k ≤ La ∧ Hid (K1 w wr g gn gl cn cl q k)) (fun i _ => 40 - (intOf i).toNat)
  case atStart => exact ⟨0, rfl, by omega, by omega, hI3⟩
  case round =>
    obtain ⟨k, rfl, hk40, hkL, hI⟩ := hrel
    clear hI3
    by_cases hk : k < La ∧ k < 40
    · obtain ⟨hk1, hk2⟩ := hk
      obtain ⟨vw, W, f, hD, hE, hWin, hWl, hSd, hWas, hf⟩ := hI.out.all
      have hbel := Lib.hid hI.out.below
      obtain ⟨g', o', rfl, hcell⟩ := hA.out _ hbel.out k hk1
      have hX := Lib.hid (And.intro hE (And.intro hWin (And.intro hWl hf)))
      have hDh := Lib.hid (And.intro hD (And.intro hSd hWas))
      have hgs : Hid (wr.heap.size ≠ g) := Lib.hid (Nat.ne_of_gt (head_lt hD.head))
      clear hD hE hWin hWl hSd hWas hf hI
      have hkm : ((k % 8 : Nat) : Int) = (k : Int) % 8 := by omega
      go_wp2_with fail
      refine (HFull.out _ wr).mono ?_
      rintro e w4 ⟨rfl, hF⟩
      have hD4 := Lib.hid (And.intro (hDh.out.1.below hF.below) (And.intro (side_below hDh.out.2.1 hF.below).1 (was_same hDh.out.2.2 (side_below hDh.out.2.1 hF.below).2)))
      have hS4 := Lib.hid (sec_of hF)
      have hB4 := Lib.hid (hbel.out.trans (hF.below.mono hbel.out.size))
      clear hF
      go_wp2_with fail
      refine (dk_write2 0 rfl ((k : Int) % 8) (k % 8) hkm hD4.out.1 (by omega) wr.heap.size _ hS4.out hgs.out (by have := hX.out.2.2.1; omega) (by decide) (by decide) (by omega) (by omega) (by decide)).mono ?_
      rintro e w5 ⟨rfl, gw, cw, hD, hB5', hQ⟩
      obtain ⟨hSd, hq⟩ := hQ q hD4.out.2.1
      have hWas := was_same hD4.out.2.2 hq
      have hB5 := Lib.hid (hB4.out.trans hB5')
      obtain ⟨g2, o2, e2, hcell2⟩ := hA.out _ hB5.out k hk1
      cases e2
      have hc5 := was_cell hWas (k % 8) (by omega)
      have hf5 := was_free hWas (k % 8)
      have hset := side_set hSd hD (k % 8) (.int .u8 (xs k : Int))
      have hnext : Hid (K1 w (w5.setCell ⟨q, k % 8, none⟩ (.int .u8 (xs k : Int))) g gn gl cn cl q (k + 1)) := Lib.hid ⟨⟨_, _, upd f (k % 8) (xs k), by
        have h := hset.1
        rw [texts_upd] at h
        exact h, by rw [setAll_add, hX.out.1, texts_upd], by
        intro x hx
        rcases List.mem_append.1 hx with h' | h'
        · exact hX.out.2.1 x h'
        · rw [List.mem_singleton] at h'; rw [h']; exact Nat.mod_lt _ (by decide), by rw [List.length_append]; have := hX.out.2.2.1; simp; omega, hset.2, was_set hWas _ _, fun n => by
        unfold upd
        split
        · exact Hxs.out k trivial
        · exact hX.out.2.2.2 n⟩, hB5.out.setCell (p := ⟨q, k % 8, none⟩) hq3.out _⟩
      clear hD hB5' hQ hSd hq hWas hset
      have hi0 : (0 : Int) ≤ ((k % 8 : Nat) : Int) := Int.natCast_nonneg _
      have hi1 : ((k % 8 : Nat) : Int) < 8 := by omega
      rw [hkm] at hi0 hi1
      go_wp2_with fail
      go_roundw
      case rel => exact ⟨k + 1, by go_num, by omega, by omega, hnext⟩
      case measure => simp [intOf]; omega
    · obtain ⟨vw, W, f, hD, hE, hWin, hWl, hSd, hWas, hf⟩ := hI.out.all
      have hbel := Lib.hid hI.out.below
      clear hI
      by_cases hk1 : k < La
      · have hk2 : ¬ k < 40 := fun h => hk ⟨hk1, h⟩
        go_wp2_with fail
        refine (dk_barrier2 0 rfl hD hWin (by omega) (by decide) (by decide) (by omega) (by omega) (by decide)).mono ?_
        rintro e w5 ⟨rfl, hD5, hB5', hQ⟩
        obtain ⟨hSd5, hq5⟩ := hQ q hSd
        rw [hE] at hD5
        have hJ : Hid (K2 w w5 g gn gl cn cl q f mo 0) := Lib.hid ⟨⟨_, _, hD5, by omega, by omega, hSd5⟩, was_same hWas hq5, hbel.out.trans hB5'⟩
        have Hf := Lib.hid (fun n (_ : True) => hf n)
        clear hD hE hWin hWl hSd hWas hf hD5 hB5' hQ hSd5 hq5 hbel
        go_wp2_with fail
        go_loopw [11] (fun i wr => ∃ k : Nat, i = .int .i64 (k : Int) ∧ k ≤ 40 ∧ k ≤ Lb ∧ Hid (K2 w wr g gn gl cn cl q f mo k)) (fun i _ => 40 - (intOf i).toNat)
        case atStart => exact ⟨0, rfl, by omega, by omega, hJ⟩
        case round =>
          clear hk hk40 hkL
          clear hJ
          obtain ⟨k2, rfl, hk40, hkL, hI⟩ := hrel
          by_cases hk : k2 < Lb ∧ k2 < 40
          · obtain ⟨hk1, hk2⟩ := hk
            obtain ⟨vw, st, hD, hs0, hs1, hSd⟩ := hI.out.all
            have hbel := Lib.hid hI.out.below
            obtain ⟨g', o', rfl, hcell⟩ := hB.out _ hbel.out k2 hk1
            have hDh := Lib.hid (And.intro hD (And.intro hSd hI.out.was))
            have hgs : Hid (wr.heap.size ≠ g) := Lib.hid (Nat.ne_of_gt (head_lt hD.head))
            clear hD hSd hI
            have hkm : ((k2 * 3 % 8 : Nat) : Int) = (k2 : Int) * 3 % 8 := by omega
            have hwm : IntKind.i64.wrap ((k2 : Int) * 3) = (k2 : Int) * 3 := by rw [IntKind.wrap_i64]; omega
            go_wp2_with fail
            refine (HFull.out _ wr).mono ?_
            rintro e w4 ⟨rfl, hF⟩
            have hD4 := Lib.hid (And.intro (hDh.out.1.below hF.below) (And.intro (side_below hDh.out.2.1 hF.below).1 (was_same hDh.out.2.2 (side_below hDh.out.2.1 hF.below).2)))
            have hS4 := Lib.hid (sec_of hF)
            have hB4 := Lib.hid (hbel.out.trans (hF.below.mono hbel.out.size))
            clear hF
            go_wp2_with fail
            refine (dk_write2 0 rfl ((k2 : Int) * 3 % 8) (k2 * 3 % 8) hkm hD4.out.1 (by omega) wr.heap.size _ hS4.out hgs.out (by rw [W2_len]; omega) (by decide) (by decide) (by omega) (by omega) (by decide)).mono ?_
            rintro e w5 ⟨rfl, gw, cw, hD, hB5', hQ⟩
            obtain ⟨hSd, hq⟩ := hQ q hD4.out.2.1
            rw [← setAll_add, W2_snoc] at hD
            have hnext : Hid (K2 w w5 g gn gl cn cl q f mo (k2 + 1)) := Lib.hid ⟨⟨_, _, hD, by omega, by omega, hSd⟩, was_same hD4.out.2.2 hq, hB4.out.trans hB5'⟩
            clear hD hB5' hQ hSd hq
            go_wp2_with fail
            go_roundw
            case rel => exact ⟨k2 + 1, by go_num, by omega, by omega, hnext⟩
            case measure => simp [intOf]; omega
          · have hend : Hid (k2 = Lb ∨ (k2 = 40 ∧ k2 < Lb)) := Lib.hid (by omega)
            by_cases hk1 : k2 < Lb
            · have hk2 : ¬ k2 < 40 := fun h => hk ⟨hk1, h⟩
              go_wp2_with fail
              obtain ⟨vw, st, hD, hs0, hs1, hSd⟩ := hI.out.all
              have hbel := Lib.hid hI.out.below
              have hWas := hI.out.was
              refine (dk_crash2 hD (allStr_texts f) (W2_lt mo k2) (by rw [W2_len]; omega) sc Lc cc pk (fun V hV i hi => hC.out V (hbel.out.trans (hV.below (fun k e => e ▸ hD.ge.2.2.1) (dk_size hD))) i hi)).mono ?_
              rintro e w5 ⟨rfl, hD5, hB5', hQ⟩
              have Hfin := Lib.hid (fun n hn => keep_fin f mo k2 (fun i => decide (i < Lc) && od (pk i)) (fun n => Hf.out n trivial) (fun n => Hmo.out n trivial) n hn)
              obtain ⟨nv, hnv⟩ : ∃ nv, nowTo (setAll (textsOf f) (W2 mo k2)) (pickTo (textsOf f) (W2 mo k2) (fun i => decide (i < Lc) && od (pk i)) (W2 mo k2).length) (W2 mo k2) (W2 mo k2).length = nv := ⟨_, rfl⟩
              rw [hnv] at hD5 Hfin
              have hJ : Hid (K3 w w5 g gn gl cn cl q f nv) := Lib.hid ⟨⟨_, _, hD5⟩, (hQ q hSd).1, was_same hWas (hQ q hSd).2, hbel.out.trans hB5'⟩
              clear hD hSd hWas hI hD5 hB5' hQ hnv hbel hs0 hs1
              go_wp2_with fail
              go_loopw [12] (fun i wr => ∃ n : Nat, i = .int .i64 (n : Int) ∧ n ≤ 8 ∧ Hid (K3 w wr g gn gl cn cl q f nv)) (fun i _ => 8 - (intOf i).toNat)
              case atStart => exact ⟨0, rfl, by omega, hJ⟩
              case round =>
                clear hJ
                obtain ⟨n, rfl, hn8, hI⟩ := hrel
                by_cases hn : n < 8
                · obtain ⟨x, hx, hnx, hor⟩ := Hfin.out n hn
                  obtain ⟨st, lv, hD⟩ := hI.out.all
                  have hcell : wr.cell? ⟨gn, n, none⟩ = some (.string (secS (x : Int))) := by rw [World.ownsRow.cellAt hD.now n (by omega)]; exact hnx
                  have HR := Lib.hid (read_ok g _ _ _ _ _ _ wr n (secS (x : Int)) gn 8 cn rfl hn hcell (Lib.hid hD.head))
                  rw [secS_size] at HR
                  have Hor := Lib.hid (mayOf_true f mo n x k2 hor)
                  have Hx := Lib.hid hx
                  clear hcell hD hnx hor hx
                  go_wp2_with fail
                  refine HR.out.mono ?_
                  rintro e w6 ⟨cp, rfl, hcs, hlt, hb6⟩
                  have hcx : ∀ j, j < 512 → w6.cell? ⟨wr.heap.size, j, none⟩ = some (.int .u8 (x : Int)) := fun j hj => by rw [hcs j hj, secS_get (x : Int) x rfl Hx.out j hj]
                  have hK6 := Lib.hid (k3_below hI.out hb6)
                  have hc60 := hcx 0 (by decide)
                  have Hcx := Lib.hid hcx
                  have Hcv := Lib.hid (fun V (hb : Below w6.heap.size w6 V) => b_conv (cp := cp) hcx hb)
                  have Hc0 := Lib.hid (fun V (hb : Below w6.heap.size w6 V) => (hb.cell (World.block_lt_of_cell? w6 _ hc60)).trans hc60)
                  have hq6 := was_cell hK6.out.was n hn
                  clear hcs hlt hb6 hcx HR hI
                  generalize wr.heap.size = b6 at *
                  go_wp2_with fail
                  let V : Nat → Value → World → Prop := fun j v W => match j with | 0 => v = .int .i64 0 | 1 => v = .bool false | 2 => v = .bool false | 3 => v = .slice (some ⟨b6, 0, none⟩) 512 cp | 4 => v = .string (secS (x : Int)) | 5 => v = .slice (some ⟨b6, 0, none⟩) 512 cp | 6 => v = .pointer (some ⟨b6, 0, none⟩) | 7 => v = .int .u8 (x : Int) | 8 => ∃ g8, v = .slice (some ⟨g8, 0, none⟩) 512 512 ∧ Sec W g8 (x : Int) | 9 => v = .string (secS (x : Int)) | 10 => v = .bool false | 11 => v = .bool false | _ => True
                  let R : World → World → Prop := fun W W2 => Below W.heap.size W W2
                  refine wp_region_fill (by kernel_rfl) V (fun W => Below w6.heap.size w6 W) R (by kernel_rfl) (by kernel_rfl) ((Below.refl _ _).drew) (fun W W2 hr hi => hi.trans (hr.mono hi.size)) ?_ ?_ ?_
                  · intro j v W W2 hr h
                    match j, h with
                    | 0, h => exact h
                    | 1, h => exact h
                    | 2, h => exact h
                    | 3, h => exact h
                    | 4, h => exact h
                    | 5, h => exact h
                    | 6, h => exact h
                    | 7, h => exact h
                    | 8, h => obtain ⟨g8, h1, h2⟩ := h; exact ⟨g8, h1, own_only h2 (Only.of_below (S := fun _ => False) hr) (fun _ _ q => q)⟩
                    | 9, h => exact h
                    | 10, h => exact h
                    | 11, h => exact h
                    | n + 12, h => exact h
                  · intro i o ho a W hN hi h
                    match i, ho with
                    | 0, ho =>
                      obtain rfl := Option.some.inj (show some _ = some o from ho)
                      have e14 : a.eval (.tmp 14) = .int .i64 0 := hN.eval 14 (by kernel_rfl)
                      refine fill_value (v := .int .i64 0) ho rfl (by rfl) (by clear h hN; have hcst : ∀ v, a.eval (.const v) = v := (fun _ => rfl); generalize a.eval = ρ at *; go_simp) rfl (Below.refl _ _)
                    | 1, ho =>
                      obtain rfl := Option.some.inj (show some _ = some o from ho)
                      have e91 : a.eval (.tmp 91) = .int .i64 0 := h ⟨0, .data⟩ (by simp) rfl
                      refine fill_value (v := .bool false) ho rfl (by rfl) (by clear h hN; have hcst : ∀ v, a.eval (.const v) = v := (fun _ => rfl); generalize a.eval = ρ at *; go_simp) rfl (Below.refl _ _)
                    | 2, ho =>
                      obtain rfl := Option.some.inj (show some _ = some o from ho)
                      have e92 : a.eval (.tmp 92) = .bool false := h ⟨1, .data⟩ (by simp) rfl
                      refine fill_value (v := .bool false) ho rfl (by rfl) (by clear h hN; have hcst : ∀ v, a.eval (.const v) = v := (fun _ => rfl); generalize a.eval = ρ at *; go_simp) rfl (Below.refl _ _)
                    | 3, ho =>
                      obtain rfl := Option.some.inj (show some _ = some o from ho)
                      have e13 : a.eval (.tmp 13) = .slice (some ⟨b6, 0, none⟩) 512 cp := hN.eval 13 (by kernel_rfl)
                      refine fill_value (v := .slice (some ⟨b6, 0, none⟩) 512 cp) ho rfl (guard_is false rfl rfl (show a.eval (.tmp 93) = .bool false from h ⟨2, .guard⟩ (by simp) rfl)) (by clear h hN; have hcst : ∀ v, a.eval (.const v) = v := (fun _ => rfl); generalize a.eval = ρ at *; go_simp) rfl (Below.refl _ _)
                    | 4, ho =>
                      obtain rfl := Option.some.inj (show some _ = some o from ho)
                      have e94 : a.eval (.tmp 94) = .slice (some ⟨b6, 0, none⟩) 512 cp := h ⟨3, .data⟩ (by simp) rfl
                      have hc4 := Hcv.out W hi
                      refine fill_value (v := .string (secS (x : Int))) ho rfl (guard_is false rfl rfl (show a.eval (.tmp 93) = .bool false from h ⟨2, .guard⟩ (by simp) rfl)) (by clear h hN; have hcst : ∀ v, a.eval (.const v) = v := (fun _ => rfl); generalize a.eval = ρ at *; go_simp) rfl (Below.refl _ _)
                    | 5, ho =>
                      obtain rfl := Option.some.inj (show some _ = some o from ho)
                      have e13 : a.eval (.tmp 13) = .slice (some ⟨b6, 0, none⟩) 512 cp := hN.eval 13 (by kernel_rfl)
                      refine fill_value (v := .slice (some ⟨b6, 0, none⟩) 512 cp) ho rfl (guard_is false rfl rfl (show a.eval (.tmp 93) = .bool false from h ⟨2, .guard⟩ (by simp) rfl)) (by clear h hN; have hcst : ∀ v, a.eval (.const v) = v := (fun _ => rfl); generalize a.eval = ρ at *; go_simp) rfl (Below.refl _ _)
                    | 6, ho =>
                      obtain rfl := Option.some.inj (show some _ = some o from ho)
                      have e96 : a.eval (.tmp 96) = .slice (some ⟨b6, 0, none⟩) 512 cp := h ⟨5, .data⟩ (by simp) rfl
                      refine fill_value (v := .pointer (some ⟨b6, 0, none⟩)) ho rfl (guard_is false rfl rfl (show a.eval (.tmp 93) = .bool false from h ⟨2, .guard⟩ (by simp) rfl)) (by clear h hN; have hcst : ∀ v, a.eval (.const v) = v := (fun _ => rfl); generalize a.eval = ρ at *; go_simp) rfl (Below.refl _ _)
                    | 7, ho =>
                      obtain rfl := Option.some.inj (show some _ = some o from ho)
                      have e97 : a.eval (.tmp 97) = .pointer (some ⟨b6, 0, none⟩) := h ⟨6, .data⟩ (by simp) rfl
                      have hc7 := Hc0.out W hi
                      refine fill_value (v := .int .u8 (x : Int)) ho rfl (guard_is false rfl rfl (show a.eval (.tmp 93) = .bool false from h ⟨2, .guard⟩ (by simp) rfl)) (by clear h hN; have hcst : ∀ v, a.eval (.const v) = v := (fun _ => rfl); generalize a.eval = ρ at *; go_simp) rfl (Below.refl _ _)
                    | 8, ho =>
                      obtain rfl := Option.some.inj (show some _ = some o from ho)
                      have e98 : a.eval (.tmp 98) = .int .u8 (x : Int) := h ⟨7, .data⟩ (by simp) rfl
                      refine fill_enter (f := 9) (args := #[.int .u8 (x : Int)]) ho rfl (guard_is false rfl rfl (show a.eval (.tmp 93) = .bool false from h ⟨2, .guard⟩ (by simp) rfl)) (by clear h hN; have hcst : ∀ v, a.eval (.const v) = v := (fun _ => rfl); have hfun : ∀ f, a.eval (.func f) = .func (.func f) #[] #[] := (fun _ => rfl); generalize a.eval = ρ at *; go_simp) (HFull.out _ W) ?_
                      rintro e w2 ⟨rfl, hF⟩
                      exact ⟨_, rfl, ⟨_, rfl, sec_of hF⟩, hF.below⟩
                    | 9, ho =>
                      obtain rfl := Option.some.inj (show some _ = some o from ho)
                      obtain ⟨g8, e99, p99⟩ : ∃ g8, a.eval (.tmp 99) = .slice (some ⟨g8, 0, none⟩) 512 512 ∧ Sec W g8 (x : Int) := h ⟨8, .data⟩ (by simp) rfl
                      have hc9 := sec_conv p99
                      refine fill_value (v := .string (secS (x : Int))) ho rfl (guard_is false rfl rfl (show a.eval (.tmp 93) = .bool false from h ⟨2, .guard⟩ (by simp) rfl)) (by clear h hN; have hcst : ∀ v, a.eval (.const v) = v := (fun _ => rfl); generalize a.eval = ρ at *; go_simp) rfl (Below.refl _ _)
                    | 10, ho =>
                      obtain rfl := Option.some.inj (show some _ = some o from ho)
                      have e95 : a.eval (.tmp 95) = .string (secS (x : Int)) := h ⟨4, .data⟩ (by simp) rfl
                      have e100 : a.eval (.tmp 100) = .string (secS (x : Int)) := h ⟨9, .data⟩ (by simp) rfl
                      refine fill_value (v := .bool false) ho rfl (guard_is false rfl rfl (show a.eval (.tmp 93) = .bool false from h ⟨2, .guard⟩ (by simp) rfl)) (by clear h hN; have hcst : ∀ v, a.eval (.const v) = v := (fun _ => rfl); generalize a.eval = ρ at *; go_simp) rfl (Below.refl _ _)
                    | 11, ho =>
                      obtain rfl := Option.some.inj (show some _ = some o from ho)
                      have e93 : a.eval (.tmp 93) = .bool false := h ⟨2, .data⟩ (by simp) rfl
                      have e101 : a.eval (.tmp 101) = .bool false := h ⟨10, .data⟩ (by simp) rfl
                      refine fill_value (v := .bool false) ho rfl (by rfl) (by clear h hN; have hcst : ∀ v, a.eval (.const v) = v := (fun _ => rfl); generalize a.eval = ρ at *; go_simp) rfl (Below.refl _ _)
                    | n + 12, ho => exact absurd ho (by simp)
                  · intro vals W hi h
                    have u0 : vals 0 = .int .i64 0 := h 0 (by decide)
                    have u1 : vals 1 = .bool false := h 1 (by decide)
                    have u2 : vals 2 = .bool false := h 2 (by decide)
                    have u3 : vals 3 = .slice (some ⟨b6, 0, none⟩) 512 cp := h 3 (by decide)
                    have u4 : vals 4 = .string (secS (x : Int)) := h 4 (by decide)
                    have u5 : vals 5 = .slice (some ⟨b6, 0, none⟩) 512 cp := h 5 (by decide)
                    have u6 : vals 6 = .pointer (some ⟨b6, 0, none⟩) := h 6 (by decide)
                    have u7 : vals 7 = .int .u8 (x : Int) := h 7 (by decide)
                    obtain ⟨g8, u8, p8⟩ : ∃ g8, vals 8 = .slice (some ⟨g8, 0, none⟩) 512 512 ∧ Sec W g8 (x : Int) := h 8 (by decide)
                    have u9 : vals 9 = .string (secS (x : Int)) := h 9 (by decide)
                    have u10 : vals 10 = .bool false := h 10 (by decide)
                    have u11 : vals 11 = .bool false := h 11 (by decide)
                    generalize hA : fill _ _ _ _ = A
                    have hA2 : (Act.put (Act.put (Act.put (Act.put (Act.put (Act.put (Act.put (Act.put (Act.put (Act.put (Act.put (Act.put (_ : Act) (some 91) (vals 0)) (some 92) (vals 1)) (some 93) (vals 2)) (some 94) (vals 3)) (some 95) (vals 4)) (some 96) (vals 5)) (some 97) (vals 6)) (some 98) (vals 7)) (some 99) (vals 8)) (some 100) (vals 9)) (some 101) (vals 10)) (some 102) (vals 11)) = A := hA
                    clear hA h V R
                    rw [u0, u1, u2, u3, u4, u5, u6, u7, u8, u9, u10, u11] at hA2
                    simp only [fill, Act.put, List.setIfInBounds_toArray, List.set_cons_succ, List.set_cons_zero] at hA2
                    subst hA2
                    clear u0 u1 u2 u3 u4 u5 u6 u7 u8 u9 u10 u11
                    clear Hcv Hc0
                    have hKW := Lib.hid (k3_below hK6.out hi)
                    have hc0W : W.cell? ⟨b6, 0, none⟩ = some (.int .u8 (x : Int)) := (hi.cell (World.block_lt_of_cell? w6 _ hc60)).trans hc60
                    have hqW : W.cell? ⟨q, n, none⟩ = some (.int .u8 (f n : Int)) := was_cell hKW.out.was n hn
                    have hn0 : (0 : Int) ≤ (n : Int) := Int.natCast_nonneg n
                    have hn1 : (n : Int) < 8 := by omega
                    clear hc60 hq6 hK6
                    go_wp2_with fail
                    go_quiet (fail)
                    have hKd := Lib.hid (k3_below hKW.out (below_drewN (Below.refl _ W) nq))
                    have hcd : Hid ((W.drewN nq).cell? ⟨b6, 0, none⟩ = some (.int .u8 (x : Int))) := Lib.hid hc0W
                    have hst : Hid ((((x : Nat) : Int) == ((f n : Nat) : Int)) = mayOf f mo n x 0) := Lib.hid (by unfold mayOf; rw [Bool.eq_iff_iff]; simp; omega)
                    clear hc0W hqW hKW hi
                    go_wp2_with fail
                    go_loopw [15, 16] (fun m j wr => ∃ (k4 : Nat) (b : Bool), j = .int .i64 (k4 : Int) ∧ m = .bool b ∧ k4 ≤ k2 ∧ Hid (b = mayOf f mo n x k4) ∧ Hid (K3 w wr g gn gl cn cl q f nv) ∧ Hid (wr.cell? ⟨b6, 0, none⟩ = some (.int .u8 (x : Int)))) (fun _ j _ => k2 - (intOf j).toNat)
                    case atStart => exact ⟨0, _, rfl, rfl, Nat.zero_le _, hst, hKd, hcd⟩
                    case round =>
                      clear hst hKd hcd
                      obtain ⟨k4, b, rfl, rfl, hk4, hb4, hI4, hB4⟩ := hrel
                      by_cases h4 : k4 < k2
                      · have h41 : k4 < Lb := by omega
                        have h42 : k4 < 40 := by omega
                        cases b with
                        | true =>
                          have hnext : Hid (true = mayOf f mo n x (k4 + 1)) := Lib.hid (by unfold mayOf; rw [← hb4.out]; rfl)
                          clear hb4
                          go_wp2_with fail
                          go_quiet (fail)
                          have hI5 := Lib.hid (k3_below hI4.out (below_drewN (Below.refl _ _) nq))
                          have hB5 : Hid ((World.drewN _ nq).cell? ⟨b6, 0, none⟩ = some (.int .u8 (x : Int))) := Lib.hid hB4.out
                          go_wp2_with fail
                          go_roundw
                          case rel => exact ⟨k4 + 1, true, by go_num, rfl, by omega, hnext, hI5, hB5⟩
                          case measure => simp [intOf]; omega
                        | false =>
                          by_cases h3 : k4 * 3 % 8 = n
                          · have hwm : IntKind.i64.wrap ((k4 : Int) * 3) = (k4 : Int) * 3 := by rw [IntKind.wrap_i64]; omega
                            have htm : ((k4 : Int) * 3).tmod 8 = (n : Int) := by rw [Int.tmod_eq_emod_of_nonneg (by omega)]; omega
                            have hem : ((k4 : Int) * 3) % 8 = (n : Int) := by omega
                            have hw2 : IntKind.i64.wrap (n : Int) = (n : Int) := by rw [IntKind.wrap_i64]; omega
                            obtain ⟨g', o', rfl, hcell⟩ := hB.out _ hI4.out.below k4 h41
                            have hnext : Hid (((mo k4 : Int) == (x : Int)) = mayOf f mo n x (k4 + 1)) := Lib.hid (by unfold mayOf; rw [← hb4.out, h3]; rw [Bool.eq_iff_iff]; simp; omega)
                            have hbc := hB4.out
                            have i0 : (0 : Int) ≤ (k4 : Int) := Int.natCast_nonneg k4
                            have i1 : (k4 : Int) < (Lb : Int) := by omega
                            have i2 : (k4 : Int) < 40 := by omega
                            clear hb4 h3
                            go_wp2_with fail
                            go_quiet (fail)
                            have hI5 := Lib.hid (k3_below hI4.out (below_drewN (Below.refl _ _) nq))
                            have hB5 : Hid ((World.drewN _ nq).cell? ⟨b6, 0, none⟩ = some (.int .u8 (x : Int))) := Lib.hid hB4.out
                            clear hbc hcell htm hem hwm hw2
                            go_wp2_with fail
                            go_roundw
                            case rel => exact ⟨k4 + 1, _, by go_num, rfl, by omega, hnext, hI5, hB5⟩
                            case measure => simp [intOf]; omega
                          · obtain ⟨r, hr⟩ : ∃ r : Nat, k4 * 3 % 8 = r := ⟨_, rfl⟩
                            have hwm : IntKind.i64.wrap ((k4 : Int) * 3) = (k4 : Int) * 3 := by rw [IntKind.wrap_i64]; omega
                            have htm : ((k4 : Int) * 3).tmod 8 = (r : Int) := by rw [Int.tmod_eq_emod_of_nonneg (by omega)]; omega
                            have hem : ((k4 : Int) * 3) % 8 = (r : Int) := by omega
                            have hw2 : IntKind.i64.wrap (r : Int) = (r : Int) := by rw [IntKind.wrap_i64]; omega
                            have hnext : Hid (false = mayOf f mo n x (k4 + 1)) := Lib.hid (by unfold mayOf; rw [← hb4.out, decide_eq_false h3]; rfl)
                            have hrn : ((r : Int) == (n : Int)) = false := by rw [beq_eq_false_iff_ne]; omega
                            have i2 : (k4 : Int) < 40 := by omega
                            clear hb4 h3 hr
                            go_wp2_with fail
                            go_quiet (fail)
                            have hI5 := Lib.hid (k3_below hI4.out (below_drewN (Below.refl _ _) nq))
                            have hB5 : Hid ((World.drewN _ nq).cell? ⟨b6, 0, none⟩ = some (.int .u8 (x : Int))) := Lib.hid hB4.out
                            clear htm hem hwm hw2 hrn
                            go_wp2_with fail
                            go_roundw
                            case rel => exact ⟨k4 + 1, false, by go_num, rfl, by omega, hnext, hI5, hB5⟩
                            case measure => simp [intOf]; omega
                      · obtain rfl : k4 = k2 := by omega
                        have hbt : b = true := by rw [hb4.out, Hor.out]
                        subst hbt
                        go_wp2_with fail
                        go_roundw
                        case rel => exact ⟨n + 1, by go_num, by omega, hI4⟩
                        case measure => simp [intOf]; omega
                · go_wp2_with fail
                  go_ret
                  exact ⟨rfl, hI.out.below⟩
            · clear hk
              go_wp2_with fail
              obtain ⟨vw, st, hD, hs0, hs1, hSd⟩ := hI.out.all
              have hbel := Lib.hid hI.out.below
              have hWas := hI.out.was
              refine (dk_crash2 hD (allStr_texts f) (W2_lt mo k2) (by rw [W2_len]; omega) sc Lc cc pk (fun V hV i hi => hC.out V (hbel.out.trans (hV.below (fun k e => e ▸ hD.ge.2.2.1) (dk_size hD))) i hi)).mono ?_
              rintro e w5 ⟨rfl, hD5, hB5', hQ⟩
              have Hfin := Lib.hid (fun n hn => keep_fin f mo k2 (fun i => decide (i < Lc) && od (pk i)) (fun n => Hf.out n trivial) (fun n => Hmo.out n trivial) n hn)
              obtain ⟨nv, hnv⟩ : ∃ nv, nowTo (setAll (textsOf f) (W2 mo k2)) (pickTo (textsOf f) (W2 mo k2) (fun i => decide (i < Lc) && od (pk i)) (W2 mo k2).length) (W2 mo k2) (W2 mo k2).length = nv := ⟨_, rfl⟩
              rw [hnv] at hD5 Hfin
              have hJ : Hid (K3 w w5 g gn gl cn cl q f nv) := Lib.hid ⟨⟨_, _, hD5⟩, (hQ q hSd).1, was_same hWas (hQ q hSd).2, hbel.out.trans hB5'⟩
              clear hD hSd hWas hI hD5 hB5' hQ hnv hbel hs0 hs1
              go_wp2_with fail
              go_loopw [12] (fun i wr => ∃ n : Nat, i = .int .i64 (n : Int) ∧ n ≤ 8 ∧ Hid (K3 w wr g gn gl cn cl q f nv)) (fun i _ => 8 - (intOf i).toNat)
              case atStart => exact ⟨0, rfl, by omega, hJ⟩
              case round =>
                clear hJ
                obtain ⟨n, rfl, hn8, hI⟩ := hrel
                by_cases hn : n < 8
                · obtain ⟨x, hx, hnx, hor⟩ := Hfin.out n hn
                  obtain ⟨st, lv, hD⟩ := hI.out.all
                  have hcell : wr.cell? ⟨gn, n, none⟩ = some (.string (secS (x : Int))) := by rw [World.ownsRow.cellAt hD.now n (by omega)]; exact hnx
                  have HR := Lib.hid (read_ok g _ _ _ _ _ _ wr n (secS (x : Int)) gn 8 cn rfl hn hcell (Lib.hid hD.head))
                  rw [secS_size] at HR
                  have Hor := Lib.hid (mayOf_true f mo n x k2 hor)
                  have Hx := Lib.hid hx
                  clear hcell hD hnx hor hx
                  go_wp2_with fail
                  refine HR.out.mono ?_
                  rintro e w6 ⟨cp, rfl, hcs, hlt, hb6⟩
                  have hcx : ∀ j, j < 512 → w6.cell? ⟨wr.heap.size, j, none⟩ = some (.int .u8 (x : Int)) := fun j hj => by rw [hcs j hj, secS_get (x : Int) x rfl Hx.out j hj]
                  have hK6 := Lib.hid (k3_below hI.out hb6)
                  have hc60 := hcx 0 (by decide)
                  have Hcx := Lib.hid hcx
                  have Hcv := Lib.hid (fun V (hb : Below w6.heap.size w6 V) => b_conv (cp := cp) hcx hb)
                  have Hc0 := Lib.hid (fun V (hb : Below w6.heap.size w6 V) => (hb.cell (World.block_lt_of_cell? w6 _ hc60)).trans hc60)
                  have hq6 := was_cell hK6.out.was n hn
                  clear hcs hlt hb6 hcx HR hI
                  generalize wr.heap.size = b6 at *
                  go_wp2_with fail
                  let V : Nat → Value → World → Prop := fun j v W => match j with | 0 => v = .int .i64 0 | 1 => v = .bool false | 2 => v = .bool false | 3 => v = .slice (some ⟨b6, 0, none⟩) 512 cp | 4 => v = .string (secS (x : Int)) | 5 => v = .slice (some ⟨b6, 0, none⟩) 512 cp | 6 => v = .pointer (some ⟨b6, 0, none⟩) | 7 => v = .int .u8 (x : Int) | 8 => ∃ g8, v = .slice (some ⟨g8, 0, none⟩) 512 512 ∧ Sec W g8 (x : Int) | 9 => v = .string (secS (x : Int)) | 10 => v = .bool false | 11 => v = .bool false | _ => True
                  let R : World → World → Prop := fun W W2 => Below W.heap.size W W2
                  refine wp_region_fill (by kernel_rfl) V (fun W => Below w6.heap.size w6 W) R (by kernel_rfl) (by kernel_rfl) ((Below.refl _ _).drew) (fun W W2 hr hi => hi.trans (hr.mono hi.size)) ?_ ?_ ?_
                  · intro j v W W2 hr h
                    match j, h with
                    | 0, h => exact h
                    | 1, h => exact h
                    | 2, h => exact h
                    | 3, h => exact h
                    | 4, h => exact h
                    | 5, h => exact h
                    | 6, h => exact h
                    | 7, h => exact h
                    | 8, h => obtain ⟨g8, h1, h2⟩ := h; exact ⟨g8, h1, own_only h2 (Only.of_below (S := fun _ => False) hr) (fun _ _ q => q)⟩
                    | 9, h => exact h
                    | 10, h => exact h
                    | 11, h => exact h
                    | n + 12, h => exact h
                  · intro i o ho a W hN hi h
                    match i, ho with
                    | 0, ho =>
                      obtain rfl := Option.some.inj (show some _ = some o from ho)
                      have e14 : a.eval (.tmp 14) = .int .i64 0 := hN.eval 14 (by kernel_rfl)
                      refine fill_value (v := .int .i64 0) ho rfl (by rfl) (by clear h hN; have hcst : ∀ v, a.eval (.const v) = v := (fun _ => rfl); generalize a.eval = ρ at *; go_simp) rfl (Below.refl _ _)
                    | 1, ho =>
                      obtain rfl := Option.some.inj (show some _ = some o from ho)
                      have e91 : a.eval (.tmp 91) = .int .i64 0 := h ⟨0, .data⟩ (by simp) rfl
                      refine fill_value (v := .bool false) ho rfl (by rfl) (by clear h hN; have hcst : ∀ v, a.eval (.const v) = v := (fun _ => rfl); generalize a.eval = ρ at *; go_simp) rfl (Below.refl _ _)
                    | 2, ho =>
                      obtain rfl := Option.some.inj (show some _ = some o from ho)
                      have e92 : a.eval (.tmp 92) = .bool false := h ⟨1, .data⟩ (by simp) rfl
                      refine fill_value (v := .bool false) ho rfl (by rfl) (by clear h hN; have hcst : ∀ v, a.eval (.const v) = v := (fun _ => rfl); generalize a.eval = ρ at *; go_simp) rfl (Below.refl _ _)
                    | 3, ho =>
                      obtain rfl := Option.some.inj (show some _ = some o from ho)
                      have e13 : a.eval (.tmp 13) = .slice (some ⟨b6, 0, none⟩) 512 cp := hN.eval 13 (by kernel_rfl)
                      refine fill_value (v := .slice (some ⟨b6, 0, none⟩) 512 cp) ho rfl (guard_is false rfl rfl (show a.eval (.tmp 93) = .bool false from h ⟨2, .guard⟩ (by simp) rfl)) (by clear h hN; have hcst : ∀ v, a.eval (.const v) = v := (fun _ => rfl); generalize a.eval = ρ at *; go_simp) rfl (Below.refl _ _)
                    | 4, ho =>
                      obtain rfl := Option.some.inj (show some _ = some o from ho)
                      have e94 : a.eval (.tmp 94) = .slice (some ⟨b6, 0, none⟩) 512 cp := h ⟨3, .data⟩ (by simp) rfl
                      have hc4 := Hcv.out W hi
                      refine fill_value (v := .string (secS (x : Int))) ho rfl (guard_is false rfl rfl (show a.eval (.tmp 93) = .bool false from h ⟨2, .guard⟩ (by simp) rfl)) (by clear h hN; have hcst : ∀ v, a.eval (.const v) = v := (fun _ => rfl); generalize a.eval = ρ at *; go_simp) rfl (Below.refl _ _)
                    | 5, ho =>
                      obtain rfl := Option.some.inj (show some _ = some o from ho)
                      have e13 : a.eval (.tmp 13) = .slice (some ⟨b6, 0, none⟩) 512 cp := hN.eval 13 (by kernel_rfl)
                      refine fill_value (v := .slice (some ⟨b6, 0, none⟩) 512 cp) ho rfl (guard_is false rfl rfl (show a.eval (.tmp 93) = .bool false from h ⟨2, .guard⟩ (by simp) rfl)) (by clear h hN; have hcst : ∀ v, a.eval (.const v) = v := (fun _ => rfl); generalize a.eval = ρ at *; go_simp) rfl (Below.refl _ _)
                    | 6, ho =>
                      obtain rfl := Option.some.inj (show some _ = some o from ho)
                      have e96 : a.eval (.tmp 96) = .slice (some ⟨b6, 0, none⟩) 512 cp := h ⟨5, .data⟩ (by simp) rfl
                      refine fill_value (v := .pointer (some ⟨b6, 0, none⟩)) ho rfl (guard_is false rfl rfl (show a.eval (.tmp 93) = .bool false from h ⟨2, .guard⟩ (by simp) rfl)) (by clear h hN; have hcst : ∀ v, a.eval (.const v) = v := (fun _ => rfl); generalize a.eval = ρ at *; go_simp) rfl (Below.refl _ _)
                    | 7, ho =>
                      obtain rfl := Option.some.inj (show some _ = some o from ho)
                      have e97 : a.eval (.tmp 97) = .pointer (some ⟨b6, 0, none⟩) := h ⟨6, .data⟩ (by simp) rfl
                      have hc7 := Hc0.out W hi
                      refine fill_value (v := .int .u8 (x : Int)) ho rfl (guard_is false rfl rfl (show a.eval (.tmp 93) = .bool false from h ⟨2, .guard⟩ (by simp) rfl)) (by clear h hN; have hcst : ∀ v, a.eval (.const v) = v := (fun _ => rfl); generalize a.eval = ρ at *; go_simp) rfl (Below.refl _ _)
                    | 8, ho =>
                      obtain rfl := Option.some.inj (show some _ = some o from ho)
                      have e98 : a.eval (.tmp 98) = .int .u8 (x : Int) := h ⟨7, .data⟩ (by simp) rfl
                      refine fill_enter (f := 9) (args := #[.int .u8 (x : Int)]) ho rfl (guard_is false rfl rfl (show a.eval (.tmp 93) = .bool false from h ⟨2, .guard⟩ (by simp) rfl)) (by clear h hN; have hcst : ∀ v, a.eval (.const v) = v := (fun _ => rfl); have hfun : ∀ f, a.eval (.func f) = .func (.func f) #[] #[] := (fun _ => rfl); generalize a.eval = ρ at *; go_simp) (HFull.out _ W) ?_
                      rintro e w2 ⟨rfl, hF⟩
                      exact ⟨_, rfl, ⟨_, rfl, sec_of hF⟩, hF.below⟩
                    | 9, ho =>
                      obtain rfl := Option.some.inj (show some _ = some o from ho)
                      obtain ⟨g8, e99, p99⟩ : ∃ g8, a.eval (.tmp 99) = .slice (some ⟨g8, 0, none⟩) 512 512 ∧ Sec W g8 (x : Int) := h ⟨8, .data⟩ (by simp) rfl
                      have hc9 := sec_conv p99
                      refine fill_value (v := .string (secS (x : Int))) ho rfl (guard_is false rfl rfl (show a.eval (.tmp 93) = .bool false from h ⟨2, .guard⟩ (by simp) rfl)) (by clear h hN; have hcst : ∀ v, a.eval (.const v) = v := (fun _ => rfl); generalize a.eval = ρ at *; go_simp) rfl (Below.refl _ _)
                    | 10, ho =>
                      obtain rfl := Option.some.inj (show some _ = some o from ho)
                      have e95 : a.eval (.tmp 95) = .string (secS (x : Int)) := h ⟨4, .data⟩ (by simp) rfl
                      have e100 : a.eval (.tmp 100) = .string (secS (x : Int)) := h ⟨9, .data⟩ (by simp) rfl
                      refine fill_value (v := .bool false) ho rfl (guard_is false rfl rfl (show a.eval (.tmp 93) = .bool false from h ⟨2, .guard⟩ (by simp) rfl)) (by clear h hN; have hcst : ∀ v, a.eval (.const v) = v := (fun _ => rfl); generalize a.eval = ρ at *; go_simp) rfl (Below.refl _ _)
                    | 11, ho =>
                      obtain rfl := Option.some.inj (show some _ = some o from ho)
                      have e93 : a.eval (.tmp 93) = .bool false := h ⟨2, .data⟩ (by simp) rfl
                      have e101 : a.eval (.tmp 101) = .bool false := h ⟨10, .data⟩ (by simp) rfl
                      refine fill_value (v := .bool false) ho rfl (by rfl) (by clear h hN; have hcst : ∀ v, a.eval (.const v) = v := (fun _ => rfl); generalize a.eval = ρ at *; go_simp) rfl (Below.refl _ _)
                    | n + 12, ho => exact absurd ho (by simp)
                  · intro vals W hi h
                    have u0 : vals 0 = .int .i64 0 := h 0 (by decide)
                    have u1 : vals 1 = .bool false := h 1 (by decide)
                    have u2 : vals 2 = .bool false := h 2 (by decide)
                    have u3 : vals 3 = .slice (some ⟨b6, 0, none⟩) 512 cp := h 3 (by decide)
                    have u4 : vals 4 = .string (secS (x : Int)) := h 4 (by decide)
                    have u5 : vals 5 = .slice (some ⟨b6, 0, none⟩) 512 cp := h 5 (by decide)
                    have u6 : vals 6 = .pointer (some ⟨b6, 0, none⟩) := h 6 (by decide)
                    have u7 : vals 7 = .int .u8 (x : Int) := h 7 (by decide)
                    obtain ⟨g8, u8, p8⟩ : ∃ g8, vals 8 = .slice (some ⟨g8, 0, none⟩) 512 512 ∧ Sec W g8 (x : Int) := h 8 (by decide)
                    have u9 : vals 9 = .string (secS (x : Int)) := h 9 (by decide)
                    have u10 : vals 10 = .bool false := h 10 (by decide)
                    have u11 : vals 11 = .bool false := h 11 (by decide)
                    generalize hA : fill _ _ _ _ = A
                    have hA2 : (Act.put (Act.put (Act.put (Act.put (Act.put (Act.put (Act.put (Act.put (Act.put (Act.put (Act.put (Act.put (_ : Act) (some 91) (vals 0)) (some 92) (vals 1)) (some 93) (vals 2)) (some 94) (vals 3)) (some 95) (vals 4)) (some 96) (vals 5)) (some 97) (vals 6)) (some 98) (vals 7)) (some 99) (vals 8)) (some 100) (vals 9)) (some 101) (vals 10)) (some 102) (vals 11)) = A := hA
                    clear hA h V R
                    rw [u0, u1, u2, u3, u4, u5, u6, u7, u8, u9, u10, u11] at hA2
                    simp only [fill, Act.put, List.setIfInBounds_toArray, List.set_cons_succ, List.set_cons_zero] at hA2
                    subst hA2
                    clear u0 u1 u2 u3 u4 u5 u6 u7 u8 u9 u10 u11
                    clear Hcv Hc0
                    have hKW := Lib.hid (k3_below hK6.out hi)
                    have hc0W : W.cell? ⟨b6, 0, none⟩ = some (.int .u8 (x : Int)) := (hi.cell (World.block_lt_of_cell? w6 _ hc60)).trans hc60
                    have hqW : W.cell? ⟨q, n, none⟩ = some (.int .u8 (f n : Int)) := was_cell hKW.out.was n hn
                    have hn0 : (0 : Int) ≤ (n : Int) := Int.natCast_nonneg n
                    have hn1 : (n : Int) < 8 := by omega
                    clear hc60 hq6 hK6
                    go_wp2_with fail
                    go_quiet (fail)
                    have hKd := Lib.hid (k3_below hKW.out (below_drewN (Below.refl _ W) nq))
                    have hcd : Hid ((W.drewN nq).cell? ⟨b6, 0, none⟩ = some (.int .u8 (x : Int))) := Lib.hid hc0W
                    have hst : Hid ((((x : Nat) : Int) == ((f n : Nat) : Int)) = mayOf f mo n x 0) := Lib.hid (by unfold mayOf; rw [Bool.eq_iff_iff]; simp; omega)
                    clear hc0W hqW hKW hi
                    go_wp2_with fail
                    go_loopw [15, 16] (fun m j wr => ∃ (k4 : Nat) (b : Bool), j = .int .i64 (k4 : Int) ∧ m = .bool b ∧ k4 ≤ k2 ∧ Hid (b = mayOf f mo n x k4) ∧ Hid (K3 w wr g gn gl cn cl q f nv) ∧ Hid (wr.cell? ⟨b6, 0, none⟩ = some (.int .u8 (x : Int)))) (fun _ j _ => k2 - (intOf j).toNat)
                    case atStart => exact ⟨0, _, rfl, rfl, Nat.zero_le _, hst, hKd, hcd⟩
                    case round =>
                      clear hst hKd hcd
                      obtain ⟨k4, b, rfl, rfl, hk4, hb4, hI4, hB4⟩ := hrel
                      by_cases h4 : k4 < k2
                      · have h41 : k4 < Lb := by omega
                        have h42 : k4 < 40 := by omega
                        cases b with
                        | true =>
                          have hnext : Hid (true = mayOf f mo n x (k4 + 1)) := Lib.hid (by unfold mayOf; rw [← hb4.out]; rfl)
                          clear hb4
                          go_wp2_with fail
                          go_quiet (fail)
                          have hI5 := Lib.hid (k3_below hI4.out (below_drewN (Below.refl _ _) nq))
                          have hB5 : Hid ((World.drewN _ nq).cell? ⟨b6, 0, none⟩ = some (.int .u8 (x : Int))) := Lib.hid hB4.out
                          go_wp2_with fail
                          go_roundw
                          case rel => exact ⟨k4 + 1, true, by go_num, rfl, by omega, hnext, hI5, hB5⟩
                          case measure => simp [intOf]; omega
                        | false =>
                          by_cases h3 : k4 * 3 % 8 = n
                          · have hwm : IntKind.i64.wrap ((k4 : Int) * 3) = (k4 : Int) * 3 := by rw [IntKind.wrap_i64]; omega
                            have htm : ((k4 : Int) * 3).tmod 8 = (n : Int) := by rw [Int.tmod_eq_emod_of_nonneg (by omega)]; omega
                            have hem : ((k4 : Int) * 3) % 8 = (n : Int) := by omega
                            have hw2 : IntKind.i64.wrap (n : Int) = (n : Int) := by rw [IntKind.wrap_i64]; omega
                            obtain ⟨g', o', rfl, hcell⟩ := hB.out _ hI4.out.below k4 h41
                            have hnext : Hid (((mo k4 : Int) == (x : Int)) = mayOf f mo n x (k4 + 1)) := Lib.hid (by unfold mayOf; rw [← hb4.out, h3]; rw [Bool.eq_iff_iff]; simp; omega)
                            have hbc := hB4.out
                            have i0 : (0 : Int) ≤ (k4 : Int) := Int.natCast_nonneg k4
                            have i1 : (k4 : Int) < (Lb : Int) := by omega
                            have i2 : (k4 : Int) < 40 := by omega
                            clear hb4 h3
                            go_wp2_with fail
                            go_quiet (fail)
                            have hI5 := Lib.hid (k3_below hI4.out (below_drewN (Below.refl _ _) nq))
                            have hB5 : Hid ((World.drewN _ nq).cell? ⟨b6, 0, none⟩ = some (.int .u8 (x : Int))) := Lib.hid hB4.out
                            clear hbc hcell htm hem hwm hw2
                            go_wp2_with fail
                            go_roundw
                            case rel => exact ⟨k4 + 1, _, by go_num, rfl, by omega, hnext, hI5, hB5⟩
                            case measure => simp [intOf]; omega
                          · obtain ⟨r, hr⟩ : ∃ r : Nat, k4 * 3 % 8 = r := ⟨_, rfl⟩
                            have hwm : IntKind.i64.wrap ((k4 : Int) * 3) = (k4 : Int) * 3 := by rw [IntKind.wrap_i64]; omega
                            have htm : ((k4 : Int) * 3).tmod 8 = (r : Int) := by rw [Int.tmod_eq_emod_of_nonneg (by omega)]; omega
                            have hem : ((k4 : Int) * 3) % 8 = (r : Int) := by omega
                            have hw2 : IntKind.i64.wrap (r : Int) = (r : Int) := by rw [IntKind.wrap_i64]; omega
                            have hnext : Hid (false = mayOf f mo n x (k4 + 1)) := Lib.hid (by unfold mayOf; rw [← hb4.out, decide_eq_false h3]; rfl)
                            have hrn : ((r : Int) == (n : Int)) = false := by rw [beq_eq_false_iff_ne]; omega
                            have i2 : (k4 : Int) < 40 := by omega
                            clear hb4 h3 hr
                            go_wp2_with fail
                            go_quiet (fail)
                            have hI5 := Lib.hid (k3_below hI4.out (below_drewN (Below.refl _ _) nq))
                            have hB5 : Hid ((World.drewN _ nq).cell? ⟨b6, 0, none⟩ = some (.int .u8 (x : Int))) := Lib.hid hB4.out
                            clear htm hem hwm hw2 hrn
                            go_wp2_with fail
                            go_roundw
                            case rel => exact ⟨k4 + 1, false, by go_num, rfl, by omega, hnext, hI5, hB5⟩
                            case measure => simp [intOf]; omega
                      · obtain rfl : k4 = k2 := by omega
                        have hbt : b = true := by rw [hb4.out, Hor.out]
                        subst hbt
                        go_wp2_with fail
                        go_roundw
                        case rel => exact ⟨n + 1, by go_num, by omega, hI4⟩
                        case measure => simp [intOf]; omega
                · go_wp2_with fail
                  go_ret
                  exact ⟨rfl, hI.out.below⟩
      · go_wp2_with fail
        refine (dk_barrier2 0 rfl hD hWin (by omega) (by decide) (by decide) (by omega) (by omega) (by decide)).mono ?_
        rintro e w5 ⟨rfl, hD5, hB5', hQ⟩
        obtain ⟨hSd5, hq5⟩ := hQ q hSd
        rw [hE] at hD5
        have hJ : Hid (K2 w w5 g gn gl cn cl q f mo 0) := Lib.hid ⟨⟨_, _, hD5, by omega, by omega, hSd5⟩, was_same hWas hq5, hbel.out.trans hB5'⟩
        have Hf := Lib.hid (fun n (_ : True) => hf n)
        clear hD hE hWin hWl hSd hWas hf hD5 hB5' hQ hSd5 hq5 hbel
        go_wp2_with fail
        go_loopw [11] (fun i wr => ∃ k : Nat, i = .int .i64 (k : Int) ∧ k ≤ 40 ∧ k ≤ Lb ∧ Hid (K2 w wr g gn gl cn cl q f mo k)) (fun i _ => 40 - (intOf i).toNat)
        case atStart => exact ⟨0, rfl, by omega, by omega, hJ⟩
        case round =>
          clear hk hk40 hkL
          clear hJ
          obtain ⟨k2, rfl, hk40, hkL, hI⟩ := hrel
          by_cases hk : k2 < Lb ∧ k2 < 40
          · obtain ⟨hk1, hk2⟩ := hk
            obtain ⟨vw, st, hD, hs0, hs1, hSd⟩ := hI.out.all
            have hbel := Lib.hid hI.out.below
            obtain ⟨g', o', rfl, hcell⟩ := hB.out _ hbel.out k2 hk1
            have hDh := Lib.hid (And.intro hD (And.intro hSd hI.out.was))
            have hgs : Hid (wr.heap.size ≠ g) := Lib.hid (Nat.ne_of_gt (head_lt hD.head))
            clear hD hSd hI
            have hkm : ((k2 * 3 % 8 : Nat) : Int) = (k2 : Int) * 3 % 8 := by omega
            have hwm : IntKind.i64.wrap ((k2 : Int) * 3) = (k2 : Int) * 3 := by rw [IntKind.wrap_i64]; omega
            go_wp2_with fail
            refine (HFull.out _ wr).mono ?_
            rintro e w4 ⟨rfl, hF⟩
            have hD4 := Lib.hid (And.intro (hDh.out.1.below hF.below) (And.intro (side_below hDh.out.2.1 hF.below).1 (was_same hDh.out.2.2 (side_below hDh.out.2.1 hF.below).2)))
            have hS4 := Lib.hid (sec_of hF)
            have hB4 := Lib.hid (hbel.out.trans (hF.below.mono hbel.out.size))
            clear hF
            go_wp2_with fail
            refine (dk_write2 0 rfl ((k2 : Int) * 3 % 8) (k2 * 3 % 8) hkm hD4.out.1 (by omega) wr.heap.size _ hS4.out hgs.out (by rw [W2_len]; omega) (by decide) (by decide) (by omega) (by omega) (by decide)).mono ?_
            rintro e w5 ⟨rfl, gw, cw, hD, hB5', hQ⟩
            obtain ⟨hSd, hq⟩ := hQ q hD4.out.2.1
            rw [← setAll_add, W2_snoc] at hD
            have hnext : Hid (K2 w w5 g gn gl cn cl q f mo (k2 + 1)) := Lib.hid ⟨⟨_, _, hD, by omega, by omega, hSd⟩, was_same hD4.out.2.2 hq, hB4.out.trans hB5'⟩
            clear hD hB5' hQ hSd hq
            go_wp2_with fail
            go_roundw
            case rel => exact ⟨k2 + 1, by go_num, by omega, by omega, hnext⟩
            case measure => simp [intOf]; omega
          · have hend : Hid (k2 = Lb ∨ (k2 = 40 ∧ k2 < Lb)) := Lib.hid (by omega)
            by_cases hk1 : k2 < Lb
            · have hk2 : ¬ k2 < 40 := fun h => hk ⟨hk1, h⟩
              go_wp2_with fail
              obtain ⟨vw, st, hD, hs0, hs1, hSd⟩ := hI.out.all
              have hbel := Lib.hid hI.out.below
              have hWas := hI.out.was
              refine (dk_crash2 hD (allStr_texts f) (W2_lt mo k2) (by rw [W2_len]; omega) sc Lc cc pk (fun V hV i hi => hC.out V (hbel.out.trans (hV.below (fun k e => e ▸ hD.ge.2.2.1) (dk_size hD))) i hi)).mono ?_
              rintro e w5 ⟨rfl, hD5, hB5', hQ⟩
              have Hfin := Lib.hid (fun n hn => keep_fin f mo k2 (fun i => decide (i < Lc) && od (pk i)) (fun n => Hf.out n trivial) (fun n => Hmo.out n trivial) n hn)
              obtain ⟨nv, hnv⟩ : ∃ nv, nowTo (setAll (textsOf f) (W2 mo k2)) (pickTo (textsOf f) (W2 mo k2) (fun i => decide (i < Lc) && od (pk i)) (W2 mo k2).length) (W2 mo k2) (W2 mo k2).length = nv := ⟨_, rfl⟩
              rw [hnv] at hD5 Hfin
              have hJ : Hid (K3 w w5 g gn gl cn cl q f nv) := Lib.hid ⟨⟨_, _, hD5⟩, (hQ q hSd).1, was_same hWas (hQ q hSd).2, hbel.out.trans hB5'⟩
              clear hD hSd hWas hI hD5 hB5' hQ hnv hbel hs0 hs1
              go_wp2_with fail
              go_loopw [12] (fun i wr => ∃ n : Nat, i = .int .i64 (n : Int) ∧ n ≤ 8 ∧ Hid (K3 w wr g gn gl cn cl q f nv)) (fun i _ => 8 - (intOf i).toNat)
              case atStart => exact ⟨0, rfl, by omega, hJ⟩
              case round =>
                clear hJ
                obtain ⟨n, rfl, hn8, hI⟩ := hrel
                by_cases hn : n < 8
                · obtain ⟨x, hx, hnx, hor⟩ := Hfin.out n hn
                  obtain ⟨st, lv, hD⟩ := hI.out.all
                  have hcell : wr.cell? ⟨gn, n, none⟩ = some (.string (secS (x : Int))) := by rw [World.ownsRow.cellAt hD.now n (by omega)]; exact hnx
                  have HR := Lib.hid (read_ok g _ _ _ _ _ _ wr n (secS (x : Int)) gn 8 cn rfl hn hcell (Lib.hid hD.head))
                  rw [secS_size] at HR
                  have Hor := Lib.hid (mayOf_true f mo n x k2 hor)
                  have Hx := Lib.hid hx
                  clear hcell hD hnx hor hx
                  go_wp2_with fail
                  refine HR.out.mono ?_
                  rintro e w6 ⟨cp, rfl, hcs, hlt, hb6⟩
                  have hcx : ∀ j, j < 512 → w6.cell? ⟨wr.heap.size, j, none⟩ = some (.int .u8 (x : Int)) := fun j hj => by rw [hcs j hj, secS_get (x : Int) x rfl Hx.out j hj]
                  have hK6 := Lib.hid (k3_below hI.out hb6)
                  have hc60 := hcx 0 (by decide)
                  have Hcx := Lib.hid hcx
                  have Hcv := Lib.hid (fun V (hb : Below w6.heap.size w6 V) => b_conv (cp := cp) hcx hb)
                  have Hc0 := Lib.hid (fun V (hb : Below w6.heap.size w6 V) => (hb.cell (World.block_lt_of_cell? w6 _ hc60)).trans hc60)
                  have hq6 := was_cell hK6.out.was n hn
                  clear hcs hlt hb6 hcx HR hI
                  generalize wr.heap.size = b6 at *
                  go_wp2_with fail
                  let V : Nat → Value → World → Prop := fun j v W => match j with | 0 => v = .int .i64 0 | 1 => v = .bool false | 2 => v = .bool false | 3 => v = .slice (some ⟨b6, 0, none⟩) 512 cp | 4 => v = .string (secS (x : Int)) | 5 => v = .slice (some ⟨b6, 0, none⟩) 512 cp | 6 => v = .pointer (some ⟨b6, 0, none⟩) | 7 => v = .int .u8 (x : Int) | 8 => ∃ g8, v = .slice (some ⟨g8, 0, none⟩) 512 512 ∧ Sec W g8 (x : Int) | 9 => v = .string (secS (x : Int)) | 10 => v = .bool false | 11 => v = .bool false | _ => True
                  let R : World → World → Prop := fun W W2 => Below W.heap.size W W2
                  refine wp_region_fill (by kernel_rfl) V (fun W => Below w6.heap.size w6 W) R (by kernel_rfl) (by kernel_rfl) ((Below.refl _ _).drew) (fun W W2 hr hi => hi.trans (hr.mono hi.size)) ?_ ?_ ?_
                  · intro j v W W2 hr h
                    match j, h with
                    | 0, h => exact h
                    | 1, h => exact h
                    | 2, h => exact h
                    | 3, h => exact h
                    | 4, h => exact h
                    | 5, h => exact h
                    | 6, h => exact h
                    | 7, h => exact h
                    | 8, h => obtain ⟨g8, h1, h2⟩ := h; exact ⟨g8, h1, own_only h2 (Only.of_below (S := fun _ => False) hr) (fun _ _ q => q)⟩
                    | 9, h => exact h
                    | 10, h => exact h
                    | 11, h => exact h
                    | n + 12, h => exact h
                  · intro i o ho a W hN hi h
                    match i, ho with
                    | 0, ho =>
                      obtain rfl := Option.some.inj (show some _ = some o from ho)
                      have e14 : a.eval (.tmp 14) = .int .i64 0 := hN.eval 14 (by kernel_rfl)
                      refine fill_value (v := .int .i64 0) ho rfl (by rfl) (by clear h hN; have hcst : ∀ v, a.eval (.const v) = v := (fun _ => rfl); generalize a.eval = ρ at *; go_simp) rfl (Below.refl _ _)
                    | 1, ho =>
                      obtain rfl := Option.some.inj (show some _ = some o from ho)
                      have e91 : a.eval (.tmp 91) = .int .i64 0 := h ⟨0, .data⟩ (by simp) rfl
                      refine fill_value (v := .bool false) ho rfl (by rfl) (by clear h hN; have hcst : ∀ v, a.eval (.const v) = v := (fun _ => rfl); generalize a.eval = ρ at *; go_simp) rfl (Below.refl _ _)
                    | 2, ho =>
                      obtain rfl := Option.some.inj (show some _ = some o from ho)
                      have e92 : a.eval (.tmp 92) = .bool false := h ⟨1, .data⟩ (by simp) rfl
                      refine fill_value (v := .bool false) ho rfl (by rfl) (by clear h hN; have hcst : ∀ v, a.eval (.const v) = v := (fun _ => rfl); generalize a.eval = ρ at *; go_simp) rfl (Below.refl _ _)
                    | 3, ho =>
                      obtain rfl := Option.some.inj (show some _ = some o from ho)
                      have e13 : a.eval (.tmp 13) = .slice (some ⟨b6, 0, none⟩) 512 cp := hN.eval 13 (by kernel_rfl)
                      refine fill_value (v := .slice (some ⟨b6, 0, none⟩) 512 cp) ho rfl (guard_is false rfl rfl (show a.eval (.tmp 93) = .bool false from h ⟨2, .guard⟩ (by simp) rfl)) (by clear h hN; have hcst : ∀ v, a.eval (.const v) = v := (fun _ => rfl); generalize a.eval = ρ at *; go_simp) rfl (Below.refl _ _)
                    | 4, ho =>
                      obtain rfl := Option.some.inj (show some _ = some o from ho)
                      have e94 : a.eval (.tmp 94) = .slice (some ⟨b6, 0, none⟩) 512 cp := h ⟨3, .data⟩ (by simp) rfl
                      have hc4 := Hcv.out W hi
                      refine fill_value (v := .string (secS (x : Int))) ho rfl (guard_is false rfl rfl (show a.eval (.tmp 93) = .bool false from h ⟨2, .guard⟩ (by simp) rfl)) (by clear h hN; have hcst : ∀ v, a.eval (.const v) = v := (fun _ => rfl); generalize a.eval = ρ at *; go_simp) rfl (Below.refl _ _)
                    | 5, ho =>
                      obtain rfl := Option.some.inj (show some _ = some o from ho)
                      have e13 : a.eval (.tmp 13) = .slice (some ⟨b6, 0, none⟩) 512 cp := hN.eval 13 (by kernel_rfl)
                      refine fill_value (v := .slice (some ⟨b6, 0, none⟩) 512 cp) ho rfl (guard_is false rfl rfl (show a.eval (.tmp 93) = .bool false from h ⟨2, .guard⟩ (by simp) rfl)) (by clear h hN; have hcst : ∀ v, a.eval (.const v) = v := (fun _ => rfl); generalize a.eval = ρ at *; go_simp) rfl (Below.refl _ _)
                    | 6, ho =>
                      obtain rfl := Option.some.inj (show some _ = some o from ho)
                      have e96 : a.eval (.tmp 96) = .slice (some ⟨b6, 0, none⟩) 512 cp := h ⟨5, .data⟩ (by simp) rfl
                      refine fill_value (v := .pointer (some ⟨b6, 0, none⟩)) ho rfl (guard_is false rfl rfl (show a.eval (.tmp 93) = .bool false from h ⟨2, .guard⟩ (by simp) rfl)) (by clear h hN; have hcst : ∀ v, a.eval (.const v) = v := (fun _ => rfl); generalize a.eval = ρ at *; go_simp) rfl (Below.refl _ _)
                    | 7, ho =>
                      obtain rfl := Option.some.inj (show some _ = some o from ho)
                      have e97 : a.eval (.tmp 97) = .pointer (some ⟨b6, 0, none⟩) := h ⟨6, .data⟩ (by simp) rfl
                      have hc7 := Hc0.out W hi
                      refine fill_value (v := .int .u8 (x : Int)) ho rfl (guard_is false rfl rfl (show a.eval (.tmp 93) = .bool false from h ⟨2, .guard⟩ (by simp) rfl)) (by clear h hN; have hcst : ∀ v, a.eval (.const v) = v := (fun _ => rfl); generalize a.eval = ρ at *; go_simp) rfl (Below.refl _ _)
                    | 8, ho =>
                      obtain rfl := Option.some.inj (show some _ = some o from ho)
                      have e98 : a.eval (.tmp 98) = .int .u8 (x : Int) := h ⟨7, .data⟩ (by simp) rfl
                      refine fill_enter (f := 9) (args := #[.int .u8 (x : Int)]) ho rfl (guard_is false rfl rfl (show a.eval (.tmp 93) = .bool false from h ⟨2, .guard⟩ (by simp) rfl)) (by clear h hN; have hcst : ∀ v, a.eval (.const v) = v := (fun _ => rfl); have hfun : ∀ f, a.eval (.func f) = .func (.func f) #[] #[] := (fun _ => rfl); generalize a.eval = ρ at *; go_simp) (HFull.out _ W) ?_
                      rintro e w2 ⟨rfl, hF⟩
                      exact ⟨_, rfl, ⟨_, rfl, sec_of hF⟩, hF.below⟩
                    | 9, ho =>
                      obtain rfl := Option.some.inj (show some _ = some o from ho)
                      obtain ⟨g8, e99, p99⟩ : ∃ g8, a.eval (.tmp 99) = .slice (some ⟨g8, 0, none⟩) 512 512 ∧ Sec W g8 (x : Int) := h ⟨8, .data⟩ (by simp) rfl
                      have hc9 := sec_conv p99
                      refine fill_value (v := .string (secS (x : Int))) ho rfl (guard_is false rfl rfl (show a.eval (.tmp 93) = .bool false from h ⟨2, .guard⟩ (by simp) rfl)) (by clear h hN; have hcst : ∀ v, a.eval (.const v) = v := (fun _ => rfl); generalize a.eval = ρ at *; go_simp) rfl (Below.refl _ _)
                    | 10, ho =>
                      obtain rfl := Option.some.inj (show some _ = some o from ho)
                      have e95 : a.eval (.tmp 95) = .string (secS (x : Int)) := h ⟨4, .data⟩ (by simp) rfl
                      have e100 : a.eval (.tmp 100) = .string (secS (x : Int)) := h ⟨9, .data⟩ (by simp) rfl
                      refine fill_value (v := .bool false) ho rfl (guard_is false rfl rfl (show a.eval (.tmp 93) = .bool false from h ⟨2, .guard⟩ (by simp) rfl)) (by clear h hN; have hcst : ∀ v, a.eval (.const v) = v := (fun _ => rfl); generalize a.eval = ρ at *; go_simp) rfl (Below.refl _ _)
                    | 11, ho =>
                      obtain rfl := Option.some.inj (show some _ = some o from ho)
                      have e93 : a.eval (.tmp 93) = .bool false := h ⟨2, .data⟩ (by simp) rfl
                      have e101 : a.eval (.tmp 101) = .bool false := h ⟨10, .data⟩ (by simp) rfl
                      refine fill_value (v := .bool false) ho rfl (by rfl) (by clear h hN; have hcst : ∀ v, a.eval (.const v) = v := (fun _ => rfl); generalize a.eval = ρ at *; go_simp) rfl (Below.refl _ _)
                    | n + 12, ho => exact absurd ho (by simp)
                  · intro vals W hi h
                    have u0 : vals 0 = .int .i64 0 := h 0 (by decide)
                    have u1 : vals 1 = .bool false := h 1 (by decide)
                    have u2 : vals 2 = .bool false := h 2 (by decide)
                    have u3 : vals 3 = .slice (some ⟨b6, 0, none⟩) 512 cp := h 3 (by decide)
                    have u4 : vals 4 = .string (secS (x : Int)) := h 4 (by decide)
                    have u5 : vals 5 = .slice (some ⟨b6, 0, none⟩) 512 cp := h 5 (by decide)
                    have u6 : vals 6 = .pointer (some ⟨b6, 0, none⟩) := h 6 (by decide)
                    have u7 : vals 7 = .int .u8 (x : Int) := h 7 (by decide)
                    obtain ⟨g8, u8, p8⟩ : ∃ g8, vals 8 = .slice (some ⟨g8, 0, none⟩) 512 512 ∧ Sec W g8 (x : Int) := h 8 (by decide)
                    have u9 : vals 9 = .string (secS (x : Int)) := h 9 (by decide)
                    have u10 : vals 10 = .bool false := h 10 (by decide)
                    have u11 : vals 11 = .bool false := h 11 (by decide)
                    generalize hA : fill _ _ _ _ = A
                    have hA2 : (Act.put (Act.put (Act.put (Act.put (Act.put (Act.put (Act.put (Act.put (Act.put (Act.put (Act.put (Act.put (_ : Act) (some 91) (vals 0)) (some 92) (vals 1)) (some 93) (vals 2)) (some 94) (vals 3)) (some 95) (vals 4)) (some 96) (vals 5)) (some 97) (vals 6)) (some 98) (vals 7)) (some 99) (vals 8)) (some 100) (vals 9)) (some 101) (vals 10)) (some 102) (vals 11)) = A := hA
                    clear hA h V R
                    rw [u0, u1, u2, u3, u4, u5, u6, u7, u8, u9, u10, u11] at hA2
                    simp only [fill, Act.put, List.setIfInBounds_toArray, List.set_cons_succ, List.set_cons_zero] at hA2
                    subst hA2
                    clear u0 u1 u2 u3 u4 u5 u6 u7 u8 u9 u10 u11
                    clear Hcv Hc0
                    have hKW := Lib.hid (k3_below hK6.out hi)
                    have hc0W : W.cell? ⟨b6, 0, none⟩ = some (.int .u8 (x : Int)) := (hi.cell (World.block_lt_of_cell? w6 _ hc60)).trans hc60
                    have hqW : W.cell? ⟨q, n, none⟩ = some (.int .u8 (f n : Int)) := was_cell hKW.out.was n hn
                    have hn0 : (0 : Int) ≤ (n : Int) := Int.natCast_nonneg n
                    have hn1 : (n : Int) < 8 := by omega
                    clear hc60 hq6 hK6
                    go_wp2_with fail
                    go_quiet (fail)
                    have hKd := Lib.hid (k3_below hKW.out (below_drewN (Below.refl _ W) nq))
                    have hcd : Hid ((W.drewN nq).cell? ⟨b6, 0, none⟩ = some (.int .u8 (x : Int))) := Lib.hid hc0W
                    have hst : Hid ((((x : Nat) : Int) == ((f n : Nat) : Int)) = mayOf f mo n x 0) := Lib.hid (by unfold mayOf; rw [Bool.eq_iff_iff]; simp; omega)
                    clear hc0W hqW hKW hi
                    go_wp2_with fail
                    go_loopw [15, 16] (fun m j wr => ∃ (k4 : Nat) (b : Bool), j = .int .i64 (k4 : Int) ∧ m = .bool b ∧ k4 ≤ k2 ∧ Hid (b = mayOf f mo n x k4) ∧ Hid (K3 w wr g gn gl cn cl q f nv) ∧ Hid (wr.cell? ⟨b6, 0, none⟩ = some (.int .u8 (x : Int)))) (fun _ j _ => k2 - (intOf j).toNat)
                    case atStart => exact ⟨0, _, rfl, rfl, Nat.zero_le _, hst, hKd, hcd⟩
                    case round =>
                      clear hst hKd hcd
                      obtain ⟨k4, b, rfl, rfl, hk4, hb4, hI4, hB4⟩ := hrel
                      by_cases h4 : k4 < k2
                      · have h41 : k4 < Lb := by omega
                        have h42 : k4 < 40 := by omega
                        cases b with
                        | true =>
                          have hnext : Hid (true = mayOf f mo n x (k4 + 1)) := Lib.hid (by unfold mayOf; rw [← hb4.out]; rfl)
                          clear hb4
                          go_wp2_with fail
                          go_quiet (fail)
                          have hI5 := Lib.hid (k3_below hI4.out (below_drewN (Below.refl _ _) nq))
                          have hB5 : Hid ((World.drewN _ nq).cell? ⟨b6, 0, none⟩ = some (.int .u8 (x : Int))) := Lib.hid hB4.out
                          go_wp2_with fail
                          go_roundw
                          case rel => exact ⟨k4 + 1, true, by go_num, rfl, by omega, hnext, hI5, hB5⟩
                          case measure => simp [intOf]; omega
                        | false =>
                          by_cases h3 : k4 * 3 % 8 = n
                          · have hwm : IntKind.i64.wrap ((k4 : Int) * 3) = (k4 : Int) * 3 := by rw [IntKind.wrap_i64]; omega
                            have htm : ((k4 : Int) * 3).tmod 8 = (n : Int) := by rw [Int.tmod_eq_emod_of_nonneg (by omega)]; omega
                            have hem : ((k4 : Int) * 3) % 8 = (n : Int) := by omega
                            have hw2 : IntKind.i64.wrap (n : Int) = (n : Int) := by rw [IntKind.wrap_i64]; omega
                            obtain ⟨g', o', rfl, hcell⟩ := hB.out _ hI4.out.below k4 h41
                            have hnext : Hid (((mo k4 : Int) == (x : Int)) = mayOf f mo n x (k4 + 1)) := Lib.hid (by unfold mayOf; rw [← hb4.out, h3]; rw [Bool.eq_iff_iff]; simp; omega)
                            have hbc := hB4.out
                            have i0 : (0 : Int) ≤ (k4 : Int) := Int.natCast_nonneg k4
                            have i1 : (k4 : Int) < (Lb : Int) := by omega
                            have i2 : (k4 : Int) < 40 := by omega
                            clear hb4 h3
                            go_wp2_with fail
                            go_quiet (fail)
                            have hI5 := Lib.hid (k3_below hI4.out (below_drewN (Below.refl _ _) nq))
                            have hB5 : Hid ((World.drewN _ nq).cell? ⟨b6, 0, none⟩ = some (.int .u8 (x : Int))) := Lib.hid hB4.out
                            clear hbc hcell htm hem hwm hw2
                            go_wp2_with fail
                            go_roundw
                            case rel => exact ⟨k4 + 1, _, by go_num, rfl, by omega, hnext, hI5, hB5⟩
                            case measure => simp [intOf]; omega
                          · obtain ⟨r, hr⟩ : ∃ r : Nat, k4 * 3 % 8 = r := ⟨_, rfl⟩
                            have hwm : IntKind.i64.wrap ((k4 : Int) * 3) = (k4 : Int) * 3 := by rw [IntKind.wrap_i64]; omega
                            have htm : ((k4 : Int) * 3).tmod 8 = (r : Int) := by rw [Int.tmod_eq_emod_of_nonneg (by omega)]; omega
                            have hem : ((k4 : Int) * 3) % 8 = (r : Int) := by omega
                            have hw2 : IntKind.i64.wrap (r : Int) = (r : Int) := by rw [IntKind.wrap_i64]; omega
                            have hnext : Hid (false = mayOf f mo n x (k4 + 1)) := Lib.hid (by unfold mayOf; rw [← hb4.out, decide_eq_false h3]; rfl)
                            have hrn : ((r : Int) == (n : Int)) = false := by rw [beq_eq_false_iff_ne]; omega
                            have i2 : (k4 : Int) < 40 := by omega
                            clear hb4 h3 hr
                            go_wp2_with fail
                            go_quiet (fail)
                            have hI5 := Lib.hid (k3_below hI4.out (below_drewN (Below.refl _ _) nq))
                            have hB5 : Hid ((World.drewN _ nq).cell? ⟨b6, 0, none⟩ = some (.int .u8 (x : Int))) := Lib.hid hB4.out
                            clear htm hem hwm hw2 hrn
                            go_wp2_with fail
                            go_roundw
                            case rel => exact ⟨k4 + 1, false, by go_num, rfl, by omega, hnext, hI5, hB5⟩
                            case measure => simp [intOf]; omega
                      · obtain rfl : k4 = k2 := by omega
                        have hbt : b = true := by rw [hb4.out, Hor.out]
                        subst hbt
                        go_wp2_with fail
                        go_roundw
                        case rel => exact ⟨n + 1, by go_num, by omega, hI4⟩
                        case measure => simp [intOf]; omega
                · go_wp2_with fail
                  go_ret
                  exact ⟨rfl, hI.out.below⟩
            · clear hk
              go_wp2_with fail
              obtain ⟨vw, st, hD, hs0, hs1, hSd⟩ := hI.out.all
              have hbel := Lib.hid hI.out.below
              have hWas := hI.out.was
              refine (dk_crash2 hD (allStr_texts f) (W2_lt mo k2) (by rw [W2_len]; omega) sc Lc cc pk (fun V hV i hi => hC.out V (hbel.out.trans (hV.below (fun k e => e ▸ hD.ge.2.2.1) (dk_size hD))) i hi)).mono ?_
              rintro e w5 ⟨rfl, hD5, hB5', hQ⟩
              have Hfin := Lib.hid (fun n hn => keep_fin f mo k2 (fun i => decide (i < Lc) && od (pk i)) (fun n => Hf.out n trivial) (fun n => Hmo.out n trivial) n hn)
              obtain ⟨nv, hnv⟩ : ∃ nv, nowTo (setAll (textsOf f) (W2 mo k2)) (pickTo (textsOf f) (W2 mo k2) (fun i => decide (i < Lc) && od (pk i)) (W2 mo k2).length) (W2 mo k2) (W2 mo k2).length = nv := ⟨_, rfl⟩
              rw [hnv] at hD5 Hfin
              have hJ : Hid (K3 w w5 g gn gl cn cl q f nv) := Lib.hid ⟨⟨_, _, hD5⟩, (hQ q hSd).1, was_same hWas (hQ q hSd).2, hbel.out.trans hB5'⟩
              clear hD hSd hWas hI hD5 hB5' hQ hnv hbel hs0 hs1
              go_wp2_with fail
              go_loopw [12] (fun i wr => ∃ n : Nat, i = .int .i64 (n : Int) ∧ n ≤ 8 ∧ Hid (K3 w wr g gn gl cn cl q f nv)) (fun i _ => 8 - (intOf i).toNat)
              case atStart => exact ⟨0, rfl, by omega, hJ⟩
              case round =>
                clear hJ
                obtain ⟨n, rfl, hn8, hI⟩ := hrel
                by_cases hn : n < 8
                · obtain ⟨x, hx, hnx, hor⟩ := Hfin.out n hn
                  obtain ⟨st, lv, hD⟩ := hI.out.all
                  have hcell : wr.cell? ⟨gn, n, none⟩ = some (.string (secS (x : Int))) := by rw [World.ownsRow.cellAt hD.now n (by omega)]; exact hnx
                  have HR := Lib.hid (read_ok g _ _ _ _ _ _ wr n (secS (x : Int)) gn 8 cn rfl hn hcell (Lib.hid hD.head))
                  rw [secS_size] at HR
                  have Hor := Lib.hid (mayOf_true f mo n x k2 hor)
                  have Hx := Lib.hid hx
                  clear hcell hD hnx hor hx
                  go_wp2_with fail
                  refine HR.out.mono ?_
                  rintro e w6 ⟨cp, rfl, hcs, hlt, hb6⟩
                  have hcx : ∀ j, j < 512 → w6.cell? ⟨wr.heap.size, j, none⟩ = some (.int .u8 (x : Int)) := fun j hj => by rw [hcs j hj, secS_get (x : Int) x rfl Hx.out j hj]
                  have hK6 := Lib.hid (k3_below hI.out hb6)
                  have hc60 := hcx 0 (by decide)
                  have Hcx := Lib.hid hcx
                  have Hcv := Lib.hid (fun V (hb : Below w6.heap.size w6 V) => b_conv (cp := cp) hcx hb)
                  have Hc0 := Lib.hid (fun V (hb : Below w6.heap.size w6 V) => (hb.cell (World.block_lt_of_cell? w6 _ hc60)).trans hc60)
                  have hq6 := was_cell hK6.out.was n hn
                  clear hcs hlt hb6 hcx HR hI
                  generalize wr.heap.size = b6 at *
                  go_wp2_with fail
                  let V : Nat → Value → World → Prop := fun j v W => match j with | 0 => v = .int .i64 0 | 1 => v = .bool false | 2 => v = .bool false | 3 => v = .slice (some ⟨b6, 0, none⟩) 512 cp | 4 => v = .string (secS (x : Int)) | 5 => v = .slice (some ⟨b6, 0, none⟩) 512 cp | 6 => v = .pointer (some ⟨b6, 0, none⟩) | 7 => v = .int .u8 (x : Int) | 8 => ∃ g8, v = .slice (some ⟨g8, 0, none⟩) 512 512 ∧ Sec W g8 (x : Int) | 9 => v = .string (secS (x : Int)) | 10 => v = .bool false | 11 => v = .bool false | _ => True
                  let R : World → World → Prop := fun W W2 => Below W.heap.size W W2
                  refine wp_region_fill (by kernel_rfl) V (fun W => Below w6.heap.size w6 W) R (by kernel_rfl) (by kernel_rfl) ((Below.refl _ _).drew) (fun W W2 hr hi => hi.trans (hr.mono hi.size)) ?_ ?_ ?_
                  · intro j v W W2 hr h
                    match j, h with
                    | 0, h => exact h
                    | 1, h => exact h
                    | 2, h => exact h
                    | 3, h => exact h
                    | 4, h => exact h
                    | 5, h => exact h
                    | 6, h => exact h
                    | 7, h => exact h
                    | 8, h => obtain ⟨g8, h1, h2⟩ := h; exact ⟨g8, h1, own_only h2 (Only.of_below (S := fun _ => False) hr) (fun _ _ q => q)⟩
                    | 9, h => exact h
                    | 10, h => exact h
                    | 11, h => exact h
                    | n + 12, h => exact h
                  · intro i o ho a W hN hi h
                    match i, ho with
                    | 0, ho =>
                      obtain rfl := Option.some.inj (show some _ = some o from ho)
                      have e14 : a.eval (.tmp 14) = .int .i64 0 := hN.eval 14 (by kernel_rfl)
                      refine fill_value (v := .int .i64 0) ho rfl (by rfl) (by clear h hN; have hcst : ∀ v, a.eval (.const v) = v := (fun _ => rfl); generalize a.eval = ρ at *; go_simp) rfl (Below.refl _ _)
                    | 1, ho =>
                      obtain rfl := Option.some.inj (show some _ = some o from ho)
                      have e91 : a.eval (.tmp 91) = .int .i64 0 := h ⟨0, .data⟩ (by simp) rfl
                      refine fill_value (v := .bool false) ho rfl (by rfl) (by clear h hN; have hcst : ∀ v, a.eval (.const v) = v := (fun _ => rfl); generalize a.eval = ρ at *; go_simp) rfl (Below.refl _ _)
                    | 2, ho =>
                      obtain rfl := Option.some.inj (show some _ = some o from ho)
                      have e92 : a.eval (.tmp 92) = .bool false := h ⟨1, .data⟩ (by simp) rfl
                      refine fill_value (v := .bool false) ho rfl (by rfl) (by clear h hN; have hcst : ∀ v, a.eval (.const v) = v := (fun _ => rfl); generalize a.eval = ρ at *; go_simp) rfl (Below.refl _ _)
                    | 3, ho =>
                      obtain rfl := Option.some.inj (show some _ = some o from ho)
                      have e13 : a.eval (.tmp 13) = .slice (some ⟨b6, 0, none⟩) 512 cp := hN.eval 13 (by kernel_rfl)
                      refine fill_value (v := .slice (some ⟨b6, 0, none⟩) 512 cp) ho rfl (guard_is false rfl rfl (show a.eval (.tmp 93) = .bool false from h ⟨2, .guard⟩ (by simp) rfl)) (by clear h hN; have hcst : ∀ v, a.eval (.const v) = v := (fun _ => rfl); generalize a.eval = ρ at *; go_simp) rfl (Below.refl _ _)
                    | 4, ho =>
                      obtain rfl := Option.some.inj (show some _ = some o from ho)
                      have e94 : a.eval (.tmp 94) = .slice (some ⟨b6, 0, none⟩) 512 cp := h ⟨3, .data⟩ (by simp) rfl
                      have hc4 := Hcv.out W hi
                      refine fill_value (v := .string (secS (x : Int))) ho rfl (guard_is false rfl rfl (show a.eval (.tmp 93) = .bool false from h ⟨2, .guard⟩ (by simp) rfl)) (by clear h hN; have hcst : ∀ v, a.eval (.const v) = v := (fun _ => rfl); generalize a.eval = ρ at *; go_simp) rfl (Below.refl _ _)
                    | 5, ho =>
                      obtain rfl := Option.some.inj (show some _ = some o from ho)
                      have e13 : a.eval (.tmp 13) = .slice (some ⟨b6, 0, none⟩) 512 cp := hN.eval 13 (by kernel_rfl)
                      refine fill_value (v := .slice (some ⟨b6, 0, none⟩) 512 cp) ho rfl (guard_is false rfl rfl (show a.eval (.tmp 93) = .bool false from h ⟨2, .guard⟩ (by simp) rfl)) (by clear h hN; have hcst : ∀ v, a.eval (.const v) = v := (fun _ => rfl); generalize a.eval = ρ at *; go_simp) rfl (Below.refl _ _)
                    | 6, ho =>
                      obtain rfl := Option.some.inj (show some _ = some o from ho)
                      have e96 : a.eval (.tmp 96) = .slice (some ⟨b6, 0, none⟩) 512 cp := h ⟨5, .data⟩ (by simp) rfl
                      refine fill_value (v := .pointer (some ⟨b6, 0, none⟩)) ho rfl (guard_is false rfl rfl (show a.eval (.tmp 93) = .bool false from h ⟨2, .guard⟩ (by simp) rfl)) (by clear h hN; have hcst : ∀ v, a.eval (.const v) = v := (fun _ => rfl); generalize a.eval = ρ at *; go_simp) rfl (Below.refl _ _)
                    | 7, ho =>
                      obtain rfl := Option.some.inj (show some _ = some o from ho)
                      have e97 : a.eval (.tmp 97) = .pointer (some ⟨b6, 0, none⟩) := h ⟨6, .data⟩ (by simp) rfl
                      have hc7 := Hc0.out W hi
                      refine fill_value (v := .int .u8 (x : Int)) ho rfl (guard_is false rfl rfl (show a.eval (.tmp 93) = .bool false from h ⟨2, .guard⟩ (by simp) rfl)) (by clear h hN; have hcst : ∀ v, a.eval (.const v) = v := (fun _ => rfl); generalize a.eval = ρ at *; go_simp) rfl (Below.refl _ _)
                    | 8, ho =>
                      obtain rfl := Option.some.inj (show some _ = some o from ho)
                      have e98 : a.eval (.tmp 98) = .int .u8 (x : Int) := h ⟨7, .data⟩ (by simp) rfl
                      refine fill_enter (f := 9) (args := #[.int .u8 (x : Int)]) ho rfl (guard_is false rfl rfl (show a.eval (.tmp 93) = .bool false from h ⟨2, .guard⟩ (by simp) rfl)) (by clear h hN; have hcst : ∀ v, a.eval (.const v) = v := (fun _ => rfl); have hfun : ∀ f, a.eval (.func f) = .func (.func f) #[] #[] := (fun _ => rfl); generalize a.eval = ρ at *; go_simp) (HFull.out _ W) ?_
                      rintro e w2 ⟨rfl, hF⟩
                      exact ⟨_, rfl, ⟨_, rfl, sec_of hF⟩, hF.below⟩
                    | 9, ho =>
                      obtain rfl := Option.some.inj (show some _ = some o from ho)
                      obtain ⟨g8, e99, p99⟩ : ∃ g8, a.eval (.tmp 99) = .slice (some ⟨g8, 0, none⟩) 512 512 ∧ Sec W g8 (x : Int) := h ⟨8, .data⟩ (by simp) rfl
                      have hc9 := sec_conv p99
                      refine fill_value (v := .string (secS (x : Int))) ho rfl (guard_is false rfl rfl (show a.eval (.tmp 93) = .bool false from h ⟨2, .guard⟩ (by simp) rfl)) (by clear h hN; have hcst : ∀ v, a.eval (.const v) = v := (fun _ => rfl); generalize a.eval = ρ at *; go_simp) rfl (Below.refl _ _)
                    | 10, ho =>
                      obtain rfl := Option.some.inj (show some _ = some o from ho)
                      have e95 : a.eval (.tmp 95) = .string (secS (x : Int)) := h ⟨4, .data⟩ (by simp) rfl
                      have e100 : a.eval (.tmp 100) = .string (secS (x : Int)) := h ⟨9, .data⟩ (by simp) rfl
                      refine fill_value (v := .bool false) ho rfl (guard_is false rfl rfl (show a.eval (.tmp 93) = .bool false from h ⟨2, .guard⟩ (by simp) rfl)) (by clear h hN; have hcst : ∀ v, a.eval (.const v) = v := (fun _ => rfl); generalize a.eval = ρ at *; go_simp) rfl (Below.refl _ _)
                    | 11, ho =>
                      obtain rfl := Option.some.inj (show some _ = some o from ho)
                      have e93 : a.eval (.tmp 93) = .bool false := h ⟨2, .data⟩ (by simp) rfl
                      have e101 : a.eval (.tmp 101) = .bool false := h ⟨10, .data⟩ (by simp) rfl
                      refine fill_value (v := .bool false) ho rfl (by rfl) (by clear h hN; have hcst : ∀ v, a.eval (.const v) = v := (fun _ => rfl); generalize a.eval = ρ at *; go_simp) rfl (Below.refl _ _)
                    | n + 12, ho => exact absurd ho (by simp)
                  · intro vals W hi h
                    have u0 : vals 0 = .int .i64 0 := h 0 (by decide)
                    have u1 : vals 1 = .bool false := h 1 (by decide)
                    have u2 : vals 2 = .bool false := h 2 (by decide)
                    have u3 : vals 3 = .slice (some ⟨b6, 0, none⟩) 512 cp := h 3 (by decide)
                    have u4 : vals 4 = .string (secS (x : Int)) := h 4 (by decide)
                    have u5 : vals 5 = .slice (some ⟨b6, 0, none⟩) 512 cp := h 5 (by decide)
                    have u6 : vals 6 = .pointer (some ⟨b6, 0, none⟩) := h 6 (by decide)
                    have u7 : vals 7 = .int .u8 (x : Int) := h 7 (by decide)
                    obtain ⟨g8, u8, p8⟩ : ∃ g8, vals 8 = .slice (some ⟨g8, 0, none⟩) 512 512 ∧ Sec W g8 (x : Int) := h 8 (by decide)
                    have u9 : vals 9 = .string (secS (x : Int)) := h 9 (by decide)
                    have u10 : vals 10 = .bool false := h 10 (by decide)
                    have u11 : vals 11 = .bool false := h 11 (by decide)
                    generalize hA : fill _ _ _ _ = A
                    have hA2 : (Act.put (Act.put (Act.put (Act.put (Act.put (Act.put (Act.put (Act.put (Act.put (Act.put (Act.put (Act.put (_ : Act) (some 91) (vals 0)) (some 92) (vals 1)) (some 93) (vals 2)) (some 94) (vals 3)) (some 95) (vals 4)) (some 96) (vals 5)) (some 97) (vals 6)) (some 98) (vals 7)) (some 99) (vals 8)) (some 100) (vals 9)) (some 101) (vals 10)) (some 102) (vals 11)) = A := hA
                    clear hA h V R
                    rw [u0, u1, u2, u3, u4, u5, u6, u7, u8, u9, u10, u11] at hA2
                    simp only [fill, Act.put, List.setIfInBounds_toArray, List.set_cons_succ, List.set_cons_zero] at hA2
                    subst hA2
                    clear u0 u1 u2 u3 u4 u5 u6 u7 u8 u9 u10 u11
                    clear Hcv Hc0
                    have hKW := Lib.hid (k3_below hK6.out hi)
                    have hc0W : W.cell? ⟨b6, 0, none⟩ = some (.int .u8 (x : Int)) := (hi.cell (World.block_lt_of_cell? w6 _ hc60)).trans hc60
                    have hqW : W.cell? ⟨q, n, none⟩ = some (.int .u8 (f n : Int)) := was_cell hKW.out.was n hn
                    have hn0 : (0 : Int) ≤ (n : Int) := Int.natCast_nonneg n
                    have hn1 : (n : Int) < 8 := by omega
                    clear hc60 hq6 hK6
                    go_wp2_with fail
                    go_quiet (fail)
                    have hKd := Lib.hid (k3_below hKW.out (below_drewN (Below.refl _ W) nq))
                    have hcd : Hid ((W.drewN nq).cell? ⟨b6, 0, none⟩ = some (.int .u8 (x : Int))) := Lib.hid hc0W
                    have hst : Hid ((((x : Nat) : Int) == ((f n : Nat) : Int)) = mayOf f mo n x 0) := Lib.hid (by unfold mayOf; rw [Bool.eq_iff_iff]; simp; omega)
                    clear hc0W hqW hKW hi
                    go_wp2_with fail
                    go_loopw [15, 16] (fun m j wr => ∃ (k4 : Nat) (b : Bool), j = .int .i64 (k4 : Int) ∧ m = .bool b ∧ k4 ≤ k2 ∧ Hid (b = mayOf f mo n x k4) ∧ Hid (K3 w wr g gn gl cn cl q f nv) ∧ Hid (wr.cell? ⟨b6, 0, none⟩ = some (.int .u8 (x : Int)))) (fun _ j _ => k2 - (intOf j).toNat)
                    case atStart => exact ⟨0, _, rfl, rfl, Nat.zero_le _, hst, hKd, hcd⟩
                    case round =>
                      clear hst hKd hcd
                      obtain ⟨k4, b, rfl, rfl, hk4, hb4, hI4, hB4⟩ := hrel
                      by_cases h4 : k4 < k2
                      · have h41 : k4 < Lb := by omega
                        have h42 : k4 < 40 := by omega
                        cases b with
                        | true =>
                          have hnext : Hid (true = mayOf f mo n x (k4 + 1)) := Lib.hid (by unfold mayOf; rw [← hb4.out]; rfl)
                          clear hb4
                          go_wp2_with fail
                          go_quiet (fail)
                          have hI5 := Lib.hid (k3_below hI4.out (below_drewN (Below.refl _ _) nq))
                          have hB5 : Hid ((World.drewN _ nq).cell? ⟨b6, 0, none⟩ = some (.int .u8 (x : Int))) := Lib.hid hB4.out
                          go_wp2_with fail
                          go_roundw
                          case rel => exact ⟨k4 + 1, true, by go_num, rfl, by omega, hnext, hI5, hB5⟩
                          case measure => simp [intOf]; omega
                        | false =>
                          by_cases h3 : k4 * 3 % 8 = n
                          · have hwm : IntKind.i64.wrap ((k4 : Int) * 3) = (k4 : Int) * 3 := by rw [IntKind.wrap_i64]; omega
                            have htm : ((k4 : Int) * 3).tmod 8 = (n : Int) := by rw [Int.tmod_eq_emod_of_nonneg (by omega)]; omega
                            have hem : ((k4 : Int) * 3) % 8 = (n : Int) := by omega
                            have hw2 : IntKind.i64.wrap (n : Int) = (n : Int) := by rw [IntKind.wrap_i64]; omega
                            obtain ⟨g', o', rfl, hcell⟩ := hB.out _ hI4.out.below k4 h41
                            have hnext : Hid (((mo k4 : Int) == (x : Int)) = mayOf f mo n x (k4 + 1)) := Lib.hid (by unfold mayOf; rw [← hb4.out, h3]; rw [Bool.eq_iff_iff]; simp; omega)
                            have hbc := hB4.out
                            have i0 : (0 : Int) ≤ (k4 : Int) := Int.natCast_nonneg k4
                            have i1 : (k4 : Int) < (Lb : Int) := by omega
                            have i2 : (k4 : Int) < 40 := by omega
                            clear hb4 h3
                            go_wp2_with fail
                            go_quiet (fail)
                            have hI5 := Lib.hid (k3_below hI4.out (below_drewN (Below.refl _ _) nq))
                            have hB5 : Hid ((World.drewN _ nq).cell? ⟨b6, 0, none⟩ = some (.int .u8 (x : Int))) := Lib.hid hB4.out
                            clear hbc hcell htm hem hwm hw2
                            go_wp2_with fail
                            go_roundw
                            case rel => exact ⟨k4 + 1, _, by go_num, rfl, by omega, hnext, hI5, hB5⟩
                            case measure => simp [intOf]; omega
                          · obtain ⟨r, hr⟩ : ∃ r : Nat, k4 * 3 % 8 = r := ⟨_, rfl⟩
                            have hwm : IntKind.i64.wrap ((k4 : Int) * 3) = (k4 : Int) * 3 := by rw [IntKind.wrap_i64]; omega
                            have htm : ((k4 : Int) * 3).tmod 8 = (r : Int) := by rw [Int.tmod_eq_emod_of_nonneg (by omega)]; omega
                            have hem : ((k4 : Int) * 3) % 8 = (r : Int) := by omega
                            have hw2 : IntKind.i64.wrap (r : Int) = (r : Int) := by rw [IntKind.wrap_i64]; omega
                            have hnext : Hid (false = mayOf f mo n x (k4 + 1)) := Lib.hid (by unfold mayOf; rw [← hb4.out, decide_eq_false h3]; rfl)
                            have hrn : ((r : Int) == (n : Int)) = false := by rw [beq_eq_false_iff_ne]; omega
                            have i2 : (k4 : Int) < 40 := by omega
                            clear hb4 h3 hr
                            go_wp2_with fail
                            go_quiet (fail)
                            have hI5 := Lib.hid (k3_below hI4.out (below_drewN (Below.refl _ _) nq))
                            have hB5 : Hid ((World.drewN _ nq).cell? ⟨b6, 0, none⟩ = some (.int .u8 (x : Int))) := Lib.hid hB4.out
                            clear htm hem hwm hw2 hrn
                            go_wp2_with fail
                            go_roundw
                            case rel => exact ⟨k4 + 1, false, by go_num, rfl, by omega, hnext, hI5, hB5⟩
                            case measure => simp [intOf]; omega
                      · obtain rfl : k4 = k2 := by omega
                        have hbt : b = true := by rw [hb4.out, Hor.out]
                        subst hbt
                        go_wp2_with fail
                        go_roundw
                        case rel => exact ⟨n + 1, by go_num, by omega, hI4⟩
                        case measure => simp [intOf]; omega
                · go_wp2_with fail
                  go_ret
                  exact ⟨rfl, hI.out.below⟩
theorem row_u8 {w : World} {a : Option Addr} {len cap : Nat} {z : List Int} (h : (a = none ∧ len = 0 ∧ cap = 0 ∧ z = []) ∨ ∃ x, a = some x ∧ len ≤ cap ∧ cap ≤ maxLen ∧ z.length = cap ∧ (∀ i, i < z.length → w.cell? (x.add i) = some (.int .u8 (z.getD i 0))) ∧ ∀ n ∈ z, (Lit.int .u8 n).wf = true) :
    (∀ i, (z.getD i 0).toNat < 256) ∧ ∀ V, Below w.heap.size w V → ∀ i, i < len → ∃ g' o, a = some ⟨g', o, none⟩ ∧ V.cell? ⟨g', o + i, none⟩ = some (.int .u8 (((z.getD i 0).toNat : Nat) : Int)) := by
  rcases h with ⟨_, h, _, rfl⟩ | ⟨x, rfl, h1, h2, h3, h4, h5⟩
  · exact ⟨fun i => by simp, fun V hV i hi => by omega⟩
  · have hb : ∀ i, 0 ≤ z.getD i 0 ∧ z.getD i 0 ≤ 255 := fun i => by
      by_cases hi : i < z.length
      · have e : z.getD i 0 = z[i] := by simp [List.getD, hi]
        rw [e]; exact bounds_u8 (h5 _ (List.getElem_mem hi))
      · have e : z.getD i 0 = 0 := by simp [List.getD, hi]
        rw [e]; omega
    refine ⟨fun i => by have := hb i; omega, fun V hV i hi => ?_⟩
    obtain ⟨g, o, rfl⟩ := spot_none (h4 0 (by omega))
    refine ⟨g, o, rfl, ?_⟩
    have hc := h4 i (by omega)
    rw [add_at] at hc
    rw [hV.cell (World.block_lt_of_cell? w _ hc), hc]
    have := hb i
    congr 2; omega
theorem row_i64 {w : World} {a : Option Addr} {len cap : Nat} {z : List Int} (h : (a = none ∧ len = 0 ∧ cap = 0 ∧ z = []) ∨ ∃ x, a = some x ∧ len ≤ cap ∧ cap ≤ maxLen ∧ z.length = cap ∧ (∀ i, i < z.length → w.cell? (x.add i) = some (.int .i64 (z.getD i 0))) ∧ ∀ n ∈ z, (Lit.int .i64 n).wf = true) :
    ∀ V, Below w.heap.size w V → ∀ i, i < len → ∃ g' o, a = some ⟨g', o, none⟩ ∧ V.cell? ⟨g', o + i, none⟩ = some (.int .i64 (z.getD i 0)) := by
  rcases h with ⟨_, h, _, rfl⟩ | ⟨x, rfl, h1, h2, h3, h4, h5⟩
  · intro V hV i hi; omega
  · intro V hV i hi
    obtain ⟨g, o, rfl⟩ := spot_none (h4 0 (by omega))
    refine ⟨g, o, rfl, ?_⟩
    have hc := h4 i (by omega)
    rw [add_at] at hc
    rw [hV.cell (World.block_lt_of_cell? w _ hc), hc]
theorem diskKeeps_walk (a0 : Option Addr) (len0 cap0 : Nat) (z0 : List Int) (a1 : Option Addr) (len1 cap1 : Nat) (z1 : List Int) (a2 : Option Addr) (len2 cap2 : Nat) (z2 : List Int) (w : World)
    (w0 : (a0 = none ∧ len0 = 0 ∧ cap0 = 0 ∧ z0 = []) ∨ ∃ x, a0 = some x ∧ len0 ≤ cap0 ∧ cap0 ≤ maxLen ∧ z0.length = cap0 ∧ (∀ i, i < z0.length → w.cell? (x.add i) = some (.int .u8 (z0.getD i 0))) ∧ ∀ n ∈ z0, (Lit.int .u8 n).wf = true)
    (w1 : (a1 = none ∧ len1 = 0 ∧ cap1 = 0 ∧ z1 = []) ∨ ∃ x, a1 = some x ∧ len1 ≤ cap1 ∧ cap1 ≤ maxLen ∧ z1.length = cap1 ∧ (∀ i, i < z1.length → w.cell? (x.add i) = some (.int .u8 (z1.getD i 0))) ∧ ∀ n ∈ z1, (Lit.int .u8 n).wf = true)
    (w2 : (a2 = none ∧ len2 = 0 ∧ cap2 = 0 ∧ z2 = []) ∨ ∃ x, a2 = some x ∧ len2 ≤ cap2 ∧ cap2 ≤ maxLen ∧ z2.length = cap2 ∧ (∀ i, i < z2.length → w.cell? (x.add i) = some (.int .i64 (z2.getD i 0))) ∧ ∀ n ∈ z2, (Lit.int .i64 n).wf = true) :
    Calls Try.prog 3 #[.slice a0 len0 cap0, .slice a1 len1 cap1, .slice a2 len2 cap2] w fun e w' => e = .returned (.bool true) ∧ Below w.heap.size w w' :=
  diskKeeps_mid a0 len0 cap0 (fun i => (z0.getD i 0).toNat) a1 len1 cap1 (fun i => (z1.getD i 0).toNat) a2 len2 cap2 (fun i => z2.getD i 0) w (row_u8 w0).1 (row_u8 w1).1 (Lib.hid (row_u8 w0).2) (Lib.hid (row_u8 w1).2) (Lib.hid (row_i64 w2))
end Go.Proofs.Ytmojieomdbfjcaa
