/- The document's words of val: in form, all of it; the bytes. -/
import Derived.Test.YtpacjcgpeomnaaaDoorValR
import Derived.Test.YtpacjcgpeomnaaaDoorValE
import Derived.Test.YtpacjcgpeomnaaaDoorReg4
namespace Go.Proofs.YtpacjcgpeomnaaaDoor
open Go.ChangeShapes Go.WideShapes Go.ChangeAt Go.RowKit
open Go.Proofs.YtpacjcgpeomnaaaDoor.Fw (zz vb bytesOf cells)
set_option linter.unusedVariables false
set_option maxRecDepth 20000

theorem rightB_app (a b : List (Nat × T)) : rightB (a ++ b) = (rightB a && rightB b) := by unfold rightB; rw [List.all_append]
theorem rightB_cons (x : Nat × T) (b : List (Nat × T)) : rightB (x :: b) = (decide (x.1 ≤ 200) && formB x.2 && rightB b) := by unfold rightB; rw [List.all_cons]
theorem tpres_app (d : Nat) (b : List T) : ∀ l : List T, T.pres d (l ++ b) = T.pres d l ++ T.pres d b
  | [] => by rw [List.nil_append, show T.pres d [] = [] by unfold T.pres; rfl, List.nil_append]
  | v :: vs => by
    have e1 : ∀ l, T.pres d (v :: l) = T.pre d v ++ T.pres d l := fun l => by conv => lhs; unfold T.pres
    rw [List.cons_append, e1, e1, tpres_app d b vs, List.append_assoc]
theorem tpres_nil (d : Nat) : T.pres d [] = [] := by unfold T.pres; rfl
theorem tpres_one (d : Nat) (v : T) : T.pres d [v] = T.pre d v := by
  have e1 : T.pres d (v :: []) = T.pre d v ++ T.pres d [] := by conv => lhs; unfold T.pres
  rw [e1, tpres_nil, List.append_nil]
set_option maxHeartbeats 4000000 in
theorem refRight_any (n₀ : Nat) (v : V) : ∀ (d : Nat) (W : World), Lies (· < n₀) W v → n₀ ≤ W.heap.size → d + (er v).ht ≤ 100000 →
    Calls Tryd.prog 26 #[v.val, .int .i64 (d : Int)] W fun e w' => e = .returned (.bool (rightB ((er v).pre d))) ∧ Hid (Below W.heap.size W w') := by
  induction v using V.ind with
  | h k n t ap cap ks ih =>
    intro d W hL hn hd
    have hks : er (.mk k n t ap cap ks) = .mk k n t (ks.map er) := by rw [er_eq]; rfl
    have hpre : (er (.mk k n t ap cap ks)).pre d = (d, er (.mk k n t ap cap ks)) :: T.pres (d + 1) (ks.map er) := by rw [T.pre_eq, hks]; rfl
    have hht : (er (.mk k n t ap cap ks)).ht = 1 + T.hts (ks.map er) := by rw [T.ht_eq, hks]; rfl
    rw [hpre, rightB_cons]
    rw [hht] at hd
    have hd1 : (d : Int) ≤ 99999 := by omega
    have HFt := Lib.hid (fun W => refFits_any (.mk k n t ap cap ks) hL.ok W)
    obtain ⟨fb, hfb⟩ : ∃ b, formB (er (.mk k n t ap cap ks)) = b := ⟨_, rfl⟩
    show Calls _ _ _ _ fun e w' => e = .returned (.bool (decide (d ≤ 200) && formB (er (.mk k n t ap cap ks)) && rightB (T.pres (d + 1) (ks.map er)))) ∧ _
    rw [hfb]
    simp only [hfb] at HFt
    rw [V.val_eq] at HFt ⊢
    obtain ⟨W1, hW1⟩ : ∃ W1, W.alloc (.cells #[.int .i64 k, .int .i64 n, .string t, .slice ap ks.length cap] 24) = W1 := ⟨_, rfl⟩
    have hB1 : Below W.heap.size W W1 := by rw [← hW1]; exact (Below.refl _ _).alloc (Nat.le_refl _) _
    have hbox : W1.heap[W.heap.size]? = some (.cells #[.int .i64 k, .int .i64 n, .string t, .slice ap ks.length cap] 24 (0, 0)) := by rw [← hW1]; exact World.alloc_heap_new W _
    obtain ⟨b0, b1, b2, b3⟩ := box4 hbox
    have HB1 := Lib.hid hB1
    have HBox := Lib.hid hbox
    have HIh := Lib.hid ih
    have HL := Lib.hid hL
    have HN := Lib.hid (show n₀ ≤ W.heap.size ∧ d + (1 + T.hts (ks.map er)) ≤ 100000 from ⟨hn, hd⟩)
    have hsz : ks.length ≤ 9223372036854775807 := by
      have h4 : ks.length ≤ cap ∧ cap ≤ maxLen := ⟨hL.ok.2.2.2.1, hL.ok.2.2.2.2⟩
      unfold maxLen at h4
      omega
    clear hks hpre hht hfb hB1 hbox ih hL hn hd
    by_cases h2 : 200 < d
    · have h2I : (200 : Int) < (d : Int) := by omega
      have HR : Hid ((decide (d ≤ 200) && fb && rightB (T.pres (d + 1) (ks.map er))) = false) := Lib.hid (by rw [show decide (d ≤ 200) = false by simp; omega]; rfl)
      clear h2
      go_enter Tryd.func26, Tryd.ntmps26
      go_wp2_with fail
      go_ret
      exact ⟨by rw [HR.out]; rfl, HB1⟩
    · have h2I : ¬ ((200 : Int) < (d : Int)) := by omega
      have h2d : decide (d ≤ 200) = true := by simp; omega
      cases fb with
      | false =>
        have HR : Hid ((decide (d ≤ 200) && false && rightB (T.pres (d + 1) (ks.map er))) = false) := Lib.hid (by rw [Bool.and_false]; rfl)
        clear h2 h2d
        go_enter Tryd.func26, Tryd.ntmps26
        go_wp2_with fail
        refine (HFt.out _).mono ?_
        rintro e w2 ⟨rfl, hb2⟩
        have HB2 := Lib.hid (HB1.out.trans (hb2.mono HB1.out.size))
        clear hb2
        go_wp2_with fail
        go_ret
        exact ⟨by rw [HR.out]; rfl, HB2⟩
      | true =>
        have HR : Hid (∀ b, rightB (T.pres (d + 1) (ks.map er)) = b → (decide (d ≤ 200) && true && rightB (T.pres (d + 1) (ks.map er))) = b) := Lib.hid (fun b h => by rw [h2d, h]; simp)
        obtain ⟨R, hR⟩ : ∃ R, (decide (d ≤ 200) && true && rightB (T.pres (d + 1) (ks.map er))) = R := ⟨_, rfl⟩
        have HR2 : Hid (∀ b, rightB (T.pres (d + 1) (ks.map er)) = b → R = b) := Lib.hid fun b h => hR ▸ HR.out b h
        rw [hR]
        clear h2 h2d HR hR
        go_enter Tryd.func26, Tryd.ntmps26
        go_wp2_with fail
        refine (HFt.out _).mono ?_
        rintro e w2 ⟨rfl, hb2⟩
        have HB2 : Hid (Below W1.heap.size W1 w2) := Lib.hid (hb2.mono (Nat.le_refl _))
        clear hb2
        go_wp2_with fail
        go_loopw [5] (fun i wr => ∃ j : Nat, i = .int .i64 (j : Int) ∧ j ≤ ks.length ∧ Hid (rightB (T.pres (d + 1) ((ks.take j).map er)) = true) ∧ Hid (Below W1.heap.size W1 wr)) (fun i _ => ks.length - (intOf i).toNat)
        case atStart => exact ⟨0, rfl, Nat.zero_le _, Lib.hid (by rw [List.take_zero, List.map_nil, tpres_nil]; rfl), HB2⟩
        case round =>
          obtain ⟨j, rfl, hj, HJ, HB⟩ := hrel
          have c3 := (box4_later HBox.out HB.out).2.2.2
          by_cases hlt : j < ks.length
          · rcases HL.out.row with e | ⟨g, o, ea, hg, hr⟩
            · have e : ks = [] := e
              rw [e] at hlt
              simp at hlt
            · have ea : ap = some ⟨g, o, none⟩ := ea
              have hr : Row (· < n₀) W g o ks := hr
              subst ea
              obtain ⟨hat, hli⟩ : At4 W g (o + 4 * j) ks[j] ∧ Lies (· < n₀) W ks[j] := hr.get j hlt
              have hb0 : Below n₀ W wr := (HB1.out.mono HN.out.1).trans (HB.out.mono (Nat.le_trans HN.out.1 HB1.out.size))
              obtain ⟨d0, d1, d2, d3⟩ := hat.same (hb0.block g hg)
              have hC := HIh.out ks[j] (List.getElem_mem hlt) (d + 1) wr (hli.below hb0) (Nat.le_trans (Nat.le_trans HN.out.1 HB1.out.size) HB.out.size) (by have := ers_ht ks j hlt; have h9 := HN.out.2; rw [← ers_map] at h9; omega)
              have htk : T.pres (d + 1) ((ks.take (j + 1)).map er) = T.pres (d + 1) ((ks.take j).map er) ++ (er ks[j]).pre (d + 1) := by
                rw [List.take_succ_eq_append_getElem hlt, List.map_append, tpres_app, List.map_singleton, tpres_one]
              have hall : T.pres (d + 1) (ks.map er) = T.pres (d + 1) ((ks.take j).map er) ++ ((er ks[j]).pre (d + 1) ++ T.pres (d + 1) ((ks.drop (j + 1)).map er)) := by
                have h1 : ks = ks.take j ++ ([ks[j]] ++ ks.drop (j + 1)) := by rw [List.singleton_append, ← List.drop_eq_getElem_cons hlt, List.take_append_drop]
                conv => lhs; rw [h1, List.map_append, tpres_app, List.map_append, tpres_app, List.map_singleton, tpres_one]
              obtain ⟨x, hx⟩ : ∃ x, ks[j] = x := ⟨_, rfl⟩
              rw [hx] at hC htk hall d0 d1 d2 d3
              rw [show o + 4 * j = o + j * 4 by omega] at d0 d1 d2 d3
              obtain ⟨bx, hbx⟩ : ∃ b, rightB ((er x).pre (d + 1)) = b := ⟨_, rfl⟩
              rw [hbx] at hC
              have HNx : Hid (bx = true → rightB (T.pres (d + 1) ((ks.take (j + 1)).map er)) = true) := Lib.hid fun h => by rw [htk, rightB_app, HJ.out, hbx, h]; rfl
              have HNo : Hid (bx = false → R = false) := Lib.hid fun h => HR2.out false (by rw [hall, rightB_app, rightB_app, hbx, h, HJ.out]; rfl)
              have HC := Lib.hid hC
              unfold V.val at HC
              have ed : (((d + 1 : Nat)) : Int) = (d : Int) + 1 := by omega
              rw [ed] at HC
              have HBr := Lib.hid HB.out
              clear hr hat hli hb0 hC htk hall hx hbx ed hg HJ HB
              go_wp2_with fail
              refine HC.out.mono ?_
              rintro e w3 ⟨rfl, hb3⟩
              have HB3 := Lib.hid (HBr.out.trans (hb3.out.mono HBr.out.size))
              clear hb3
              cases bx with
              | true =>
                go_wp2_with fail
                go_roundw
                case rel => exact ⟨j + 1, by go_num, by omega, Lib.hid (HNx.out (by first | rfl | trivial)), HB3⟩
                case measure => simp [intOf]; omega
              | false =>
                go_wp2_with fail
                go_ret
                exact ⟨by rw [HNo.out (by first | rfl | trivial)]; rfl, Lib.hid (HB1.out.trans (HB3.out.mono HB1.out.size))⟩
          · obtain rfl : j = ks.length := by omega
            have HE : Hid (R = true) := Lib.hid (HR2.out true (by have := HJ.out; rwa [List.take_length] at this))
            go_wp2_with fail
            go_ret
            exact ⟨by rw [HE.out]; rfl, Lib.hid (HB1.out.trans (HB.out.mono HB1.out.size))⟩
end Go.Proofs.YtpacjcgpeomnaaaDoor
