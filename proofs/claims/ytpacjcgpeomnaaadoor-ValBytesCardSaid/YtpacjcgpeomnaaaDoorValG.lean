/- The document's words of val: the bytes: the walk; Encode. -/
import Derived.Test.YtpacjcgpeomnaaaDoorValB
import Derived.Test.YtpacjcgpeomnaaaDoorReg5
import Derived.Deep.CutRange
import Derived.Deep.CutBlock
import Derived.Lib.AppendZeros
namespace Go.Proofs.YtpacjcgpeomnaaaDoor
open Go.ChangeShapes Go.WideShapes Go.ChangeAt Go.RowKit
open Go.Proofs.YtpacjcgpeomnaaaDoor.Fw (zz vb bytesOf cells)
set_option linter.unusedVariables false
set_option maxRecDepth 20000

theorem vb_lt (x : Nat) : ∀ b ∈ vb x, b < 256 := Fw.vb_byte x
theorem sv_add (a b : List Nat) (h : a.length + b.length ≤ 20000) : ∀ w, (Op.stringOp .add (Fw.sv a) (Fw.sv b)).run Tryd.prog w = .ok (.string (Fw.sv (a ++ b))) w := Fw.sv_add a b h
theorem bytes_ltG (s : ByteArray) : ∀ b ∈ bytesOf s, b < 256 := fun b hb => by
  unfold Fw.bytesOf at hb
  obtain ⟨c, _, rfl⟩ := List.mem_map.1 hb
  exact c.toNat_lt
/-- what is said of the bytes of a part -/
def BytesOk (n₀ : Nat) (x : V) : Prop := ∀ (B : Nat) (bv : Value) (l : List Nat) (W : World), Lies (· < n₀) W x → n₀ ≤ B → B ≤ W.heap.size → Fw.Own B bv l W →
  Calls Tryd.prog 27 #[bv, x.val] W fun e w' => ∃ r, e = .returned r ∧ Hid (Fw.Own B r (bytesC l (er x)) w') ∧ Hid (Below B W w' ∧ KeepN W w')
set_option maxHeartbeats 16000000 in
theorem refBytes_any (n₀ : Nat) (v : V) : InF (er v) → BytesOk n₀ v := by
  induction v using V.ind with
  | h k n t ap cap ks ih =>
    intro hin B bv l W hL hn hB ho
    have hks : er (.mk k n t ap cap ks) = .mk k n t (ks.map er) := by rw [er_eq]; rfl
    have hih : ∀ x ∈ ks, BytesOk n₀ x := fun x hx => ih x hx (hin.kid (by rw [hks]; exact List.mem_map_of_mem hx))
    obtain ⟨f1, f2, f3⟩ := form_cases hin.self
    have f1 : k = 1 → t.size = 8 := f1
    have f2 : k = 2 → t.size ≤ 4096 := f2
    have f3 : ks.length ≤ 8 := f3
    have hfr : front (er (.mk k n t ap cap ks)) = vb (zz k) ++ tailB k n t ks.length := front_eq k n t ap cap ks
    have hwk : Wd k := hL.ok.1
    have hwn : Wd n := hL.ok.2.1
    have HBd : Hid (∀ x : Int, Wd x → (vb (zz x)).length ≤ 10) := Lib.hid fun x hx => Fw.vb_ten _ (Fw.zz_lt x hx.1 hx.2)
    have HWd := Lib.hid (show Wd k ∧ Wd n ∧ Wd (ks.length : Int) from ⟨hwk, hwn, nat_wd (by omega)⟩)
    have HT : Hid (k = 1 ∨ k = 2 → t.size ≤ 4096) := Lib.hid fun e => e.elim (fun e => by have := f1 e; omega) f2
    obtain ⟨RL, hRL⟩ : ∃ r, bytesC l (er (.mk k n t ap cap ks)) = r := ⟨_, rfl⟩
    have hbc := bytesC_eq l (er (.mk k n t ap cap ks))
    rw [hRL, hfr, er_ks] at hbc
    rw [hRL, V.val_eq]
    have hbc : RL = if 32768 < l.length then l else bytesCs (l ++ (vb (zz k) ++ tailB k n t ks.length)) (ks.map er) := hbc
    obtain ⟨W1, hW1⟩ : ∃ W1, W.alloc (.cells #[.int .i64 k, .int .i64 n, .string t, .slice ap ks.length cap] 24) = W1 := ⟨_, rfl⟩
    have hB1 : Below W.heap.size W W1 := by rw [← hW1]; exact (Below.refl _ _).alloc (Nat.le_refl _) _
    have hbox : W1.heap[W.heap.size]? = some (.cells #[.int .i64 k, .int .i64 n, .string t, .slice ap ks.length cap] 24 (0, 0)) := by rw [← hW1]; exact World.alloc_heap_new W _
    obtain ⟨b0, b1, b2, b3⟩ := box4 hbox
    obtain ⟨a0, c0, rfl⟩ := Fw.own_form ho
    have HO1 := Lib.hid (Fw.own_later ho hB1)
    have HB1 := Lib.hid (show Below B W W1 ∧ B ≤ W1.heap.size ∧ KeepN W W1 from ⟨hB1.mono hB, Nat.le_trans hB hB1.size, KeepN.of_below hB1⟩)
    have HBx : Hid (∀ W', KeepN W1 W' → W'.cell? ⟨W.heap.size, 0, none⟩ = some (.int .i64 k) ∧ W'.cell? ⟨W.heap.size, 1, none⟩ = some (.int .i64 n) ∧ W'.cell? ⟨W.heap.size, 2, none⟩ = some (.string t) ∧ W'.cell? ⟨W.heap.size, 3, none⟩ = some (.slice ap ks.length cap)) := Lib.hid fun W' h => box4 (h _ _ _ _ (by decide) hbox)
    have HL := Lib.hid hL
    have HIh := Lib.hid hih
    have HN := Lib.hid hn
    have hl8 : (ks.length : Int) ≤ 8 := by omega
    obtain ⟨nl, hnl⟩ : ∃ m, l.length = m := ⟨_, rfl⟩
    have HNl := Lib.hid (fun _ : True => hnl)
    rw [hnl] at HO1 hbc ⊢
    clear hin hks ih hih f1 f2 f3 hfr hRL hB1 hL hn hB ho hwk hwn hnl
    by_cases hbig : 32768 < nl
    · have hbI : (32768 : Int) < (nl : Int) := by omega
      have HO2 : Hid (Fw.Own B (.slice a0 nl c0) RL W1) := Lib.hid (by rw [hbc, if_pos hbig]; exact HO1.out)
      clear hbc hbig
      go_enter Tryd.func27, Tryd.ntmps27
      go_wp2_with fail
      go_ret
      exact ⟨_, rfl, HO2, Lib.hid ⟨HB1.out.1, HB1.out.2.2⟩⟩
    · have hbI : ¬ ((32768 : Int) < (nl : Int)) := by omega
      rw [if_neg hbig] at hbc
      have HRL := Lib.hid (fun _ : True => hbc)
      have HK := Lib.hid (Fw.refNum_any k HWd.out.1.1 HWd.out.1.2 W1)
      have hnl2 : nl ≤ 32768 := by omega
      clear hbc hbig
      go_enter Tryd.func27, Tryd.ntmps27
      go_wp2_with fail
      refine HK.out.mono ?_
      rintro e w2 ⟨rfl, hb2⟩
      obtain ⟨v3, w4, hrun, hv4, hb4, hk4⟩ := app_str (Fw.own_later (by have h := HO1.out; rw [← HNl.out trivial] at h; exact h : Fw.Own B (.slice a0 l.length c0) l W1) hb2) (Nat.le_trans HB1.out.2.1 hb2.size) (vb (zz k)) (vb_lt _) (by have := HBd.out k HWd.out.1; have := HNl.out trivial; omega) 29
      rw [HNl.out trivial] at hrun
      obtain ⟨a4, c4, rfl⟩ := Fw.own_form hv4
      obtain ⟨L4, hL4⟩ : ∃ x, l ++ vb (zz k) = x := ⟨_, rfl⟩
      obtain ⟨n4, hn4⟩ : ∃ x, L4.length = x := ⟨_, rfl⟩
      rw [hL4] at hv4 hrun
      rw [hn4] at hv4 hrun
      have hn42 : n4 ≤ 32778 := by rw [← hn4, ← hL4, List.length_append]; have := HBd.out k HWd.out.1; have := HNl.out trivial; omega
      have HK4 : Hid (KeepN W1 w4 ∧ Below B W1 w4 ∧ B ≤ w4.heap.size) := Lib.hid ⟨(KeepN.of_below hb2).trans hk4, (hb2.mono HB1.out.2.1).trans hb4, Nat.le_trans HB1.out.2.1 (Nat.le_trans hb2.size hb4.size)⟩
      have HOw4 := Lib.hid hv4
      have HTl : Hid (RL = bytesCs (L4 ++ tailB k n t ks.length) (ks.map er)) := Lib.hid (by rw [HRL.out trivial, ← hL4, List.append_assoc])
      have HN4 := Lib.hid (fun _ : True => hn4)
      clear hv4 hb4 hk4 hb2 HK HRL hL4 hn4 HO1 HNl
      obtain ⟨q0, q1, q2, q3⟩ := HBx.out w4 HK4.out.1
      obtain ⟨Bx, hBx⟩ : ∃ x, W.heap.size = x := ⟨_, rfl⟩
      obtain ⟨m, hm⟩ : ∃ x, ks.length = x := ⟨_, rfl⟩
      have HM := Lib.hid (show W.heap.size = Bx ∧ ks.length = m from ⟨hBx, hm⟩)
      rw [hBx] at q0 q1 q2 q3 HBx ⊢
      rw [hm] at q3 HTl HBx HWd ⊢
      rw [hm] at hl8
      have HSz := Lib.hid HK4.out.2.2
      have HXo := Lib.hid (fun W' (h : KeepN w4 W') => HBx.out W' (HK4.out.1.trans h))
      have HAp : Hid (∀ (bs : List Nat) (V : World), Fw.Own B (.slice a4 n4 c4) L4 V → B ≤ V.heap.size → (∀ b ∈ bs, b < 256) → bs.length ≤ 5000 → ∃ (ax : Option Addr) (nx cx : Nat) (V2 : World), (Builtin.append_ #[29, 9] 29 #[.slice a4 n4 c4, .string (Fw.sv bs)]).run Tryd.prog V = .ok (.slice ax nx cx) V2 ∧ Hid (nx = (L4 ++ bs).length ∧ Fw.Own B (.slice ax nx cx) (L4 ++ bs) V2) ∧ Hid (Below B V V2 ∧ KeepN V V2)) := Lib.hid fun bs V ho hB hbs hl => by
        obtain ⟨v', w', hr, h1, h2, h3⟩ := app_str ho hB bs hbs (by have := HN4.out trivial; omega) 29
        obtain ⟨ax, cx, rfl⟩ := Fw.own_form h1
        exact ⟨ax, _, cx, w', hr, Lib.hid ⟨rfl, h1⟩, Lib.hid ⟨h2, h3⟩⟩
      go_upto_block 0 with (at_builtin; refine Lib.wpList_append_run _ rfl _ _ _ _ rfl _ _ rfl rfl _ _ hrun ?_)
      go_cut [0] from 15 to 53 (fun s0 wx => ∃ (ax : Option Addr) (nx cx : Nat), s0 = .slice ax nx cx ∧ Hid (nx = (L4 ++ tailB k n t m).length ∧ Fw.Own B (.slice ax nx cx) (L4 ++ tailB k n t m) wx) ∧ Hid (KeepN W1 wx ∧ Below B W1 wx ∧ B ≤ wx.heap.size))
      case first =>
        have HFin : Hid (∀ (V V2 : World), Below w4.heap.size w4 V → Below B V V2 ∧ KeepN V V2 → KeepN W1 V2 ∧ Below B W1 V2 ∧ B ≤ V2.heap.size) := Lib.hid fun V V2 h1 h2 => ⟨(HK4.out.1.trans (KeepN.of_below h1)).trans h2.2, (HK4.out.2.1.trans (h1.mono HSz.out)).trans h2.1, Nat.le_trans (Nat.le_trans HSz.out h1.size) h2.1.size⟩
        clear hrun
        by_cases h0 : k = 0
        · subst h0
          have HTe : Hid (tailB 0 n t m = vb (zz n)) := Lib.hid (by unfold tailB; simp)
          go_wp2_with fail
          refine (Fw.refNum_any n HWd.out.2.1.1 HWd.out.2.1.2 w4).mono ?_
          rintro e w5 ⟨rfl, hb5⟩
          obtain ⟨ax, nx, cx, w6, hrun, hx1, hx2⟩ := HAp.out (vb (zz n)) w5 (Fw.own_later HOw4.out hb5) (Nat.le_trans HSz.out hb5.size) (vb_lt _) (by have := HBd.out n HWd.out.2.1; omega)
          have HR := Lib.hid (HFin.out w5 w6 hb5 hx2.out)
          rw [← HTe.out] at hx1
          clear hb5 hx2
          go_wp2_with (at_builtin; refine Lib.wpList_append_run _ rfl _ _ _ _ rfl _ _ rfl rfl _ _ hrun ?_)
          go_meet
          exact ⟨ax, nx, cx, rfl, hx1, HR⟩
        by_cases h5 : k = 5
        · subst h5
          have HTe : Hid (tailB 5 n t m = vb (zz n)) := Lib.hid (by unfold tailB; simp)
          go_wp2_with fail
          refine (Fw.refNum_any n HWd.out.2.1.1 HWd.out.2.1.2 w4).mono ?_
          rintro e w5 ⟨rfl, hb5⟩
          obtain ⟨ax, nx, cx, w6, hrun, hx1, hx2⟩ := HAp.out (vb (zz n)) w5 (Fw.own_later HOw4.out hb5) (Nat.le_trans HSz.out hb5.size) (vb_lt _) (by have := HBd.out n HWd.out.2.1; omega)
          have HR := Lib.hid (HFin.out w5 w6 hb5 hx2.out)
          rw [← HTe.out] at hx1
          clear hb5 hx2
          go_wp2_with (at_builtin; refine Lib.wpList_append_run _ rfl _ _ _ _ rfl _ _ rfl rfl _ _ hrun ?_)
          go_meet
          exact ⟨ax, nx, cx, rfl, hx1, HR⟩
        by_cases h1 : k = 1
        · subst h1
          have HTe : Hid (tailB 1 n t m = vb (zz (t.size : Int)) ++ bytesOf t) := Lib.hid (by unfold tailB; simp)
          go_wp2_with fail
          refine (Fw.refStr_any t (by have := HT.out (by decide); omega) w4).mono ?_
          rintro e w5 ⟨rfl, hb5⟩
          obtain ⟨ax, nx, cx, w6, hrun, hx1, hx2⟩ := HAp.out (vb (zz (t.size : Int)) ++ bytesOf t) w5 (Fw.own_later HOw4.out hb5) (Nat.le_trans HSz.out hb5.size) (fun b hb => (List.mem_append.1 hb).elim (vb_lt _ b) (bytes_ltG t b)) (by have h2 := HBd.out (t.size : Int) (nat_wd (by have := HT.out (by decide); omega)); have h3 := HT.out (by decide); rw [List.length_append, Fw.bytesOf_len]; omega)
          have HR := Lib.hid (HFin.out w5 w6 hb5 hx2.out)
          rw [← HTe.out] at hx1
          clear hb5 hx2
          go_wp2_with (at_builtin; refine Lib.wpList_append_run _ rfl _ _ _ _ rfl _ _ rfl rfl _ _ hrun ?_)
          go_meet
          exact ⟨ax, nx, cx, rfl, hx1, HR⟩
        by_cases h2 : k = 2
        · subst h2
          have HTe : Hid (tailB 2 n t m = vb (zz (t.size : Int)) ++ bytesOf t) := Lib.hid (by unfold tailB; simp)
          go_wp2_with fail
          refine (Fw.refStr_any t (by have := HT.out (by decide); omega) w4).mono ?_
          rintro e w5 ⟨rfl, hb5⟩
          obtain ⟨ax, nx, cx, w6, hrun, hx1, hx2⟩ := HAp.out (vb (zz (t.size : Int)) ++ bytesOf t) w5 (Fw.own_later HOw4.out hb5) (Nat.le_trans HSz.out hb5.size) (fun b hb => (List.mem_append.1 hb).elim (vb_lt _ b) (bytes_ltG t b)) (by have h2 := HBd.out (t.size : Int) (nat_wd (by have := HT.out (by decide); omega)); have h3 := HT.out (by decide); rw [List.length_append, Fw.bytesOf_len]; omega)
          have HR := Lib.hid (HFin.out w5 w6 hb5 hx2.out)
          rw [← HTe.out] at hx1
          clear hb5 hx2
          go_wp2_with (at_builtin; refine Lib.wpList_append_run _ rfl _ _ _ _ rfl _ _ rfl rfl _ _ hrun ?_)
          go_meet
          exact ⟨ax, nx, cx, rfl, hx1, HR⟩
        by_cases h4 : k = 4
        · subst h4
          have HTe : Hid (tailB 4 n t m = vb (zz (m : Int))) := Lib.hid (by unfold tailB; simp)
          go_wp2_with fail
          refine (Fw.refNum_any (m : Int) HWd.out.2.2.1 HWd.out.2.2.2 w4).mono ?_
          rintro e w5 ⟨rfl, hb5⟩
          obtain ⟨ax, nx, cx, w6, hrun, hx1, hx2⟩ := HAp.out (vb (zz (m : Int))) w5 (Fw.own_later HOw4.out hb5) (Nat.le_trans HSz.out hb5.size) (vb_lt _) (by have := HBd.out (m : Int) HWd.out.2.2; omega)
          have HR := Lib.hid (HFin.out w5 w6 hb5 hx2.out)
          rw [← HTe.out] at hx1
          clear hb5 hx2
          go_wp2_with (at_builtin; refine Lib.wpList_append_run _ rfl _ _ _ _ rfl _ _ rfl rfl _ _ hrun ?_)
          go_meet
          exact ⟨ax, nx, cx, rfl, hx1, HR⟩
        by_cases h3 : k = 3
        · subst h3
          have HTe : Hid (tailB 3 n t m = vb (zz n) ++ vb (zz (m : Int))) := Lib.hid (by unfold tailB; simp)
          obtain ⟨s1, hs1⟩ : ∃ x, Fw.sv (vb (zz n)) = x := ⟨_, rfl⟩
          obtain ⟨s2, hs2⟩ : ∃ x, Fw.sv (vb (zz (m : Int))) = x := ⟨_, rfl⟩
          obtain ⟨s3, hs3⟩ : ∃ x, Fw.sv (vb (zz n) ++ vb (zz (m : Int))) = x := ⟨_, rfl⟩
          have HNn : Hid (∀ W, Calls Tryd.prog 44 #[.int .i64 n] W fun e w' => e = .returned (.string s1) ∧ Below W.heap.size W w') := Lib.hid (fun W => hs1 ▸ Fw.refNum_any n HWd.out.2.1.1 HWd.out.2.1.2 W)
          have HNm : Hid (∀ W, Calls Tryd.prog 44 #[.int .i64 (m : Int)] W fun e w' => e = .returned (.string s2) ∧ Below W.heap.size W w') := Lib.hid (fun W => hs2 ▸ Fw.refNum_any (m : Int) HWd.out.2.2.1 HWd.out.2.2.2 W)
          have HA1 : Hid (∀ w, (Op.stringOp .add s1 s2).run Tryd.prog w = .ok (.string s3) w) := Lib.hid (by
            subst hs1; subst hs2; subst hs3
            exact sv_add _ _ (by have h1 := HBd.out n HWd.out.2.1; have h2 := HBd.out (m : Int) HWd.out.2.2; omega))
          obtain ⟨L9, hL9⟩ : ∃ x, L4 ++ tailB 3 n t m = x := ⟨_, rfl⟩
          obtain ⟨n9, hn9⟩ : ∃ x, L9.length = x := ⟨_, rfl⟩
          have HN9 := Lib.hid (fun _ : True => hn9)
          have HA9 : Hid (∀ V, Fw.Own B (.slice a4 n4 c4) L4 V → B ≤ V.heap.size → ∃ (a9 : Option Addr) (c9 : Nat) (V2 : World), (Builtin.append_ #[29, 9] 29 #[.slice a4 n4 c4, .string s3]).run Tryd.prog V = .ok (.slice a9 n9 c9) V2 ∧ Fw.Own B (.slice a9 n9 c9) L9 V2 ∧ Below B V V2 ∧ KeepN V V2) := Lib.hid fun V ho hB => by
            obtain ⟨ax, nx, cx, V2, h1, h2, h3⟩ := HAp.out (vb (zz n) ++ vb (zz (m : Int))) V ho hB (fun b hb => (List.mem_append.1 hb).elim (vb_lt _ b) (vb_lt _ b)) (by have h1 := HBd.out n HWd.out.2.1; have h2 := HBd.out (m : Int) HWd.out.2.2; rw [List.length_append]; omega)
            obtain ⟨h4, h5⟩ := h2.out
            rw [← HTe.out, hL9] at h4 h5
            rw [hn9] at h4
            subst h4
            rw [hs3] at h1
            exact ⟨ax, cx, V2, h1, h5, h3.out⟩
          have HL9 := Lib.hid (fun _ : True => hL9)
          clear hs1 hs2 hs3 hL9 hn9 q0 q1 q2 q3
          go_upto_region 12 with fail
          let U : Nat → World → Prop := fun jX W => match jX with | 0 => True | 1 => True | 2 => True | 3 => True | 4 => True | 5 => True | 6 => True | 7 => True | 8 => True | 9 => Fw.Own B (.slice a4 n4 c4) L4 W | 10 => True | _ => True
          let R : Nat → World → World → Prop := fun jX W W2 => match jX with | 0 => W = W2 | 1 => W = W2 | 2 => W = W2 | 3 => Below W.heap.size W W2 | 4 => W = W2 | 5 => W = W2 | 6 => W = W2 | 7 => Below W.heap.size W W2 | 8 => W = W2 | 9 => (Below B W W2 ∧ KeepN W W2) | 10 => W = W2 | _ => W = W2
          let V : Nat → Value → World → Prop := fun jX v W => match jX with | 0 => v = .slice a4 n4 c4 | 1 => v = .pointer (some ⟨Bx, 1, none⟩) | 2 => v = .int .i64 n | 3 => v = .string s1 | 4 => v = .pointer (some ⟨Bx, 3, none⟩) | 5 => v = .slice ap m cap | 6 => v = .int .i64 (m : Int) | 7 => v = .string s2 | 8 => v = .string s3 | 9 => ∃ a9 c9, v = .slice a9 n9 c9 ∧ (Fw.Own B (.slice a9 n9 c9) L9 W) | 10 => ∃ a9 c9, v = .slice a9 n9 c9 ∧ (Fw.Own B (.slice a9 n9 c9) L9 W) | _ => True
          refine wp_region_fill5 (by kernel_rfl) U V (fun W => Below B w4 W ∧ KeepN w4 W ∧ w4.heap.size ≤ W.heap.size) R (by kernel_rfl) (by kernel_rfl) (⟨(Below.refl _ _).drew, KeepN.of_below (Below.refl _ _).drew, Nat.le_refl _⟩) ?_ ?_ ?_ ?_ ?_ ?_
          · intro jX
            match jX with
            | 0 => exact trivial
            | 1 => exact trivial
            | 2 => exact trivial
            | 3 => exact trivial
            | 4 => exact trivial
            | 5 => exact trivial
            | 6 => exact trivial
            | 7 => exact trivial
            | 8 => exact trivial
            | 9 => exact (Fw.own_later HOw4.out (Below.refl _ _).drew)
            | 10 => exact trivial
            | nX + 11 => exact trivial
          · intro iX W W2 hr hi
            match iX, hr with
            | 0, hr => exact (show W = W2 from hr) ▸ hi
            | 1, hr => exact (show W = W2 from hr) ▸ hi
            | 2, hr => exact (show W = W2 from hr) ▸ hi
            | 3, hr => exact ⟨hi.1.trans (hr.mono (Nat.le_trans HSz.out hi.2.2)), hi.2.1.trans (KeepN.of_below hr), Nat.le_trans hi.2.2 hr.size⟩
            | 4, hr => exact (show W = W2 from hr) ▸ hi
            | 5, hr => exact (show W = W2 from hr) ▸ hi
            | 6, hr => exact (show W = W2 from hr) ▸ hi
            | 7, hr => exact ⟨hi.1.trans (hr.mono (Nat.le_trans HSz.out hi.2.2)), hi.2.1.trans (KeepN.of_below hr), Nat.le_trans hi.2.2 hr.size⟩
            | 8, hr => exact (show W = W2 from hr) ▸ hi
            | 9, hr => exact ⟨hi.1.trans hr.1, hi.2.1.trans hr.2, Nat.le_trans hi.2.2 hr.1.size⟩
            | 10, hr => exact (show W = W2 from hr) ▸ hi
            | nX + 11, hr => exact (show W = W2 from hr) ▸ hi
          · intro iX jX W W2 hij hord hi hui hr h
            match iX, hij, hord, hui, hr with
            | 0, hij, hord, hui, hr => exact (show W = W2 from hr) ▸ h
            | 1, hij, hord, hui, hr => exact (show W = W2 from hr) ▸ h
            | 2, hij, hord, hui, hr => exact (show W = W2 from hr) ▸ h
            | 3, hij, hord, hui, hr =>
              match jX, hij, hord, h with
              | 0, hij, hord, h => exact h
              | 1, hij, hord, h => exact h
              | 2, hij, hord, h => exact h
              | 3, hij, hord, h => exact absurd rfl hij
              | 4, hij, hord, h => exact h
              | 5, hij, hord, h => exact h
              | 6, hij, hord, h => exact h
              | 7, hij, hord, h => exact h
              | 8, hij, hord, h => exact h
              | 9, hij, hord, h => exact Fw.own_later h hr
              | 10, hij, hord, h => exact h
              | nX + 11, hij, hord, h => exact h
            | 4, hij, hord, hui, hr => exact (show W = W2 from hr) ▸ h
            | 5, hij, hord, hui, hr => exact (show W = W2 from hr) ▸ h
            | 6, hij, hord, hui, hr => exact (show W = W2 from hr) ▸ h
            | 7, hij, hord, hui, hr =>
              match jX, hij, hord, h with
              | 0, hij, hord, h => exact h
              | 1, hij, hord, h => exact h
              | 2, hij, hord, h => exact h
              | 3, hij, hord, h => exact h
              | 4, hij, hord, h => exact h
              | 5, hij, hord, h => exact h
              | 6, hij, hord, h => exact h
              | 7, hij, hord, h => exact absurd rfl hij
              | 8, hij, hord, h => exact h
              | 9, hij, hord, h => exact Fw.own_later h hr
              | 10, hij, hord, h => exact h
              | nX + 11, hij, hord, h => exact h
            | 8, hij, hord, hui, hr => exact (show W = W2 from hr) ▸ h
            | 9, hij, hord, hui, hr =>
              match jX, hij, hord, h with
              | 0, hij, hord, h => exact h
              | 1, hij, hord, h => exact h
              | 2, hij, hord, h => exact h
              | 3, hij, hord, h => exact h
              | 4, hij, hord, h => exact h
              | 5, hij, hord, h => exact h
              | 6, hij, hord, h => exact h
              | 7, hij, hord, h => exact h
              | 8, hij, hord, h => exact h
              | 9, hij, hord, h => exact absurd rfl hij
              | 10, hij, hord, h => exact h
              | nX + 11, hij, hord, h => exact h
            | 10, hij, hord, hui, hr => exact (show W = W2 from hr) ▸ h
            | nX + 11, hij, hord, hui, hr => exact (show W = W2 from hr) ▸ h
          · intro iX jX v W W2 hij hord hi hui hr h
            match iX, hij, hord, hui, hr with
            | 0, hij, hord, hui, hr => exact (show W = W2 from hr) ▸ h
            | 1, hij, hord, hui, hr => exact (show W = W2 from hr) ▸ h
            | 2, hij, hord, hui, hr => exact (show W = W2 from hr) ▸ h
            | 3, hij, hord, hui, hr =>
              match jX, hij, hord, h with
              | 0, hij, hord, h => exact h
              | 1, hij, hord, h => exact h
              | 2, hij, hord, h => exact h
              | 3, hij, hord, h => exact absurd rfl hij
              | 4, hij, hord, h => exact h
              | 5, hij, hord, h => exact h
              | 6, hij, hord, h => exact h
              | 7, hij, hord, h => exact h
              | 8, hij, hord, h => exact h
              | 9, hij, hord, h => exact anc_no hord (by kernel_rfl)
              | 10, hij, hord, h => exact anc_no hord (by kernel_rfl)
              | nX + 11, hij, hord, h => exact h
            | 4, hij, hord, hui, hr => exact (show W = W2 from hr) ▸ h
            | 5, hij, hord, hui, hr => exact (show W = W2 from hr) ▸ h
            | 6, hij, hord, hui, hr => exact (show W = W2 from hr) ▸ h
            | 7, hij, hord, hui, hr =>
              match jX, hij, hord, h with
              | 0, hij, hord, h => exact h
              | 1, hij, hord, h => exact h
              | 2, hij, hord, h => exact h
              | 3, hij, hord, h => exact h
              | 4, hij, hord, h => exact h
              | 5, hij, hord, h => exact h
              | 6, hij, hord, h => exact h
              | 7, hij, hord, h => exact absurd rfl hij
              | 8, hij, hord, h => exact h
              | 9, hij, hord, h => exact anc_no hord (by kernel_rfl)
              | 10, hij, hord, h => exact anc_no hord (by kernel_rfl)
              | nX + 11, hij, hord, h => exact h
            | 8, hij, hord, hui, hr => exact (show W = W2 from hr) ▸ h
            | 9, hij, hord, hui, hr =>
              match jX, hij, hord, h with
              | 0, hij, hord, h => exact h
              | 1, hij, hord, h => exact h
              | 2, hij, hord, h => exact h
              | 3, hij, hord, h => exact h
              | 4, hij, hord, h => exact h
              | 5, hij, hord, h => exact h
              | 6, hij, hord, h => exact h
              | 7, hij, hord, h => exact h
              | 8, hij, hord, h => exact h
              | 9, hij, hord, h => exact absurd rfl hij
              | 10, hij, hord, h => exact anc_no hord (by kernel_rfl)
              | nX + 11, hij, hord, h => exact h
            | 10, hij, hord, hui, hr => exact (show W = W2 from hr) ▸ h
            | nX + 11, hij, hord, hui, hr => exact (show W = W2 from hr) ▸ h
          · intro iX o ho a W hN hS hi hui h
            match iX, ho, hui with
            | 0, ho, hui =>
              obtain rfl := Option.some.inj (show some _ = some o from ho)
              have e0 : a.eval (.tmp 0) = .slice a4 n4 c4 := hS 10 0 (by kernel_rfl) (by rfl)
              refine fill_value (v := .slice a4 n4 c4) ho rfl (by rfl) (by clear h hN hS; have hcst : ∀ v, a.eval (.const v) = v := (fun _ => rfl); have hfun : ∀ f, a.eval (.func f) = .func (.func f) #[] #[] := (fun _ => rfl); generalize a.eval = ρ at *; go_simp) rfl (show W = W from rfl)
            | 1, ho, hui =>
              obtain rfl := Option.some.inj (show some _ = some o from ho)
              have e3 : a.eval (.tmp 3) = .pointer (some ⟨Bx, 0, none⟩) := hN.eval 3 (by kernel_rfl)
              refine fill_value (v := .pointer (some ⟨Bx, 1, none⟩)) ho rfl (by rfl) (by clear h hN hS; have hcst : ∀ v, a.eval (.const v) = v := (fun _ => rfl); have hfun : ∀ f, a.eval (.func f) = .func (.func f) #[] #[] := (fun _ => rfl); generalize a.eval = ρ at *; go_simp) rfl (show W = W from rfl)
            | 2, ho, hui =>
              obtain rfl := Option.some.inj (show some _ = some o from ho)
              have e36 : a.eval (.tmp 36) = .pointer (some ⟨Bx, 1, none⟩) := h ⟨1, .data⟩ (by simp) rfl
              obtain ⟨q0, q1, q2, q3⟩ := HXo.out W hi.2.1
              refine fill_value (v := .int .i64 n) ho rfl (by rfl) (by clear h hN hS; have hcst : ∀ v, a.eval (.const v) = v := (fun _ => rfl); have hfun : ∀ f, a.eval (.func f) = .func (.func f) #[] #[] := (fun _ => rfl); generalize a.eval = ρ at *; go_simp) rfl (show W = W from rfl)
            | 3, ho, hui =>
              obtain rfl := Option.some.inj (show some _ = some o from ho)
              have e37 : a.eval (.tmp 37) = .int .i64 n := h ⟨2, .data⟩ (by simp) rfl
              refine fill_enter (f := 44) (args := #[.int .i64 n]) ho rfl (by rfl) (by clear h hN hS; have hcst : ∀ v, a.eval (.const v) = v := (fun _ => rfl); have hfun : ∀ f, a.eval (.func f) = .func (.func f) #[] #[] := (fun _ => rfl); generalize a.eval = ρ at *; go_simp) (HNn.out W) ?_
              rintro e w2 ⟨rfl, hb3⟩
              exact ⟨_, rfl, rfl, hb3⟩
            | 4, ho, hui =>
              obtain rfl := Option.some.inj (show some _ = some o from ho)
              have e3 : a.eval (.tmp 3) = .pointer (some ⟨Bx, 0, none⟩) := hN.eval 3 (by kernel_rfl)
              refine fill_value (v := .pointer (some ⟨Bx, 3, none⟩)) ho rfl (by rfl) (by clear h hN hS; have hcst : ∀ v, a.eval (.const v) = v := (fun _ => rfl); have hfun : ∀ f, a.eval (.func f) = .func (.func f) #[] #[] := (fun _ => rfl); generalize a.eval = ρ at *; go_simp) rfl (show W = W from rfl)
            | 5, ho, hui =>
              obtain rfl := Option.some.inj (show some _ = some o from ho)
              have e39 : a.eval (.tmp 39) = .pointer (some ⟨Bx, 3, none⟩) := h ⟨4, .data⟩ (by simp) rfl
              obtain ⟨q0, q1, q2, q3⟩ := HXo.out W hi.2.1
              refine fill_value (v := .slice ap m cap) ho rfl (by rfl) (by clear h hN hS; have hcst : ∀ v, a.eval (.const v) = v := (fun _ => rfl); have hfun : ∀ f, a.eval (.func f) = .func (.func f) #[] #[] := (fun _ => rfl); generalize a.eval = ρ at *; go_simp) rfl (show W = W from rfl)
            | 6, ho, hui =>
              obtain rfl := Option.some.inj (show some _ = some o from ho)
              have e40 : a.eval (.tmp 40) = .slice ap m cap := h ⟨5, .data⟩ (by simp) rfl
              refine fill_value (v := .int .i64 (m : Int)) ho rfl (by rfl) (by clear h hN hS; have hcst : ∀ v, a.eval (.const v) = v := (fun _ => rfl); have hfun : ∀ f, a.eval (.func f) = .func (.func f) #[] #[] := (fun _ => rfl); generalize a.eval = ρ at *; go_simp) rfl (show W = W from rfl)
            | 7, ho, hui =>
              obtain rfl := Option.some.inj (show some _ = some o from ho)
              have e41 : a.eval (.tmp 41) = .int .i64 (m : Int) := h ⟨6, .data⟩ (by simp) rfl
              refine fill_enter (f := 44) (args := #[.int .i64 (m : Int)]) ho rfl (by rfl) (by clear h hN hS; have hcst : ∀ v, a.eval (.const v) = v := (fun _ => rfl); have hfun : ∀ f, a.eval (.func f) = .func (.func f) #[] #[] := (fun _ => rfl); generalize a.eval = ρ at *; go_simp) (HNm.out W) ?_
              rintro e w2 ⟨rfl, hb3⟩
              exact ⟨_, rfl, rfl, hb3⟩
            | 8, ho, hui =>
              obtain rfl := Option.some.inj (show some _ = some o from ho)
              have e38 : a.eval (.tmp 38) = .string s1 := h ⟨3, .data⟩ (by simp) rfl
              have e42 : a.eval (.tmp 42) = .string s2 := h ⟨7, .data⟩ (by simp) rfl
              have ha := HA1.out W
              refine fill_value (v := .string s3) ho rfl (by rfl) (by clear h hN hS; have hcst : ∀ v, a.eval (.const v) = v := (fun _ => rfl); have hfun : ∀ f, a.eval (.func f) = .func (.func f) #[] #[] := (fun _ => rfl); generalize a.eval = ρ at *; go_simp) rfl (show W = W from rfl)
            | 9, ho, hui =>
              obtain rfl := Option.some.inj (show some _ = some o from ho)
              have e35 : a.eval (.tmp 35) = .slice a4 n4 c4 := h ⟨0, .data⟩ (by simp) rfl
              have e43 : a.eval (.tmp 43) = .string s3 := h ⟨8, .data⟩ (by simp) rfl
              obtain ⟨a9, c9, w9, hrun, hv9, hb9⟩ := HA9.out W hui (Nat.le_trans HSz.out hi.2.2)
              refine fill_value (v := .slice a9 n9 c9) (w' := w9) ho rfl (by rfl) (by clear h hN hS; have hcst : ∀ v, a.eval (.const v) = v := (fun _ => rfl); have hfun : ∀ f, a.eval (.func f) = .func (.func f) #[] #[] := (fun _ => rfl); generalize a.eval = ρ at *; simp [execOp, resolve, invoke, builtin, e35, e43, hrun, Result.andThen]) ⟨a9, c9, rfl, hv9⟩ (hb9)
            | 10, ho, hui =>
              obtain rfl := Option.some.inj (show some _ = some o from ho)
              obtain ⟨a9, c9, e44, p44⟩ : ∃ a9 c9, a.eval (.tmp 44) = .slice a9 n9 c9 ∧ (Fw.Own B (.slice a9 n9 c9) L9 W) := h ⟨9, .data⟩ (by simp) rfl
              refine fill_value (v := .slice a9 n9 c9) ho rfl (by rfl) (by clear h hN hS; have hcst : ∀ v, a.eval (.const v) = v := (fun _ => rfl); have hfun : ∀ f, a.eval (.func f) = .func (.func f) #[] #[] := (fun _ => rfl); generalize a.eval = ρ at *; go_simp) ⟨a9, c9, rfl, p44⟩ (show W = W from rfl)
            | nX + 11, ho, hui => exact absurd ho (by simp)
          · intro vals W hi h
            have u0 : vals 0 = .slice a4 n4 c4 := h 0 (by decide)
            have u1 : vals 1 = .pointer (some ⟨Bx, 1, none⟩) := h 1 (by decide)
            have u2 : vals 2 = .int .i64 n := h 2 (by decide)
            have u3 : vals 3 = .string s1 := h 3 (by decide)
            have u4 : vals 4 = .pointer (some ⟨Bx, 3, none⟩) := h 4 (by decide)
            have u5 : vals 5 = .slice ap m cap := h 5 (by decide)
            have u6 : vals 6 = .int .i64 (m : Int) := h 6 (by decide)
            have u7 : vals 7 = .string s2 := h 7 (by decide)
            have u8 : vals 8 = .string s3 := h 8 (by decide)
            obtain ⟨a9, c9, u9, p9⟩ : ∃ a9 c9, vals 9 = .slice a9 n9 c9 ∧ (Fw.Own B (.slice a9 n9 c9) L9 W) := h 9 (by decide)
            obtain ⟨a9, c9, u10, p10⟩ : ∃ a9 c9, vals 10 = .slice a9 n9 c9 ∧ (Fw.Own B (.slice a9 n9 c9) L9 W) := h 10 (by decide)
            generalize hA : fill _ _ _ _ = A
            have hA2 : (Act.put (Act.put (Act.put (Act.put (Act.put (Act.put (Act.put (Act.put (Act.put (Act.put (Act.put (_ : Act) (some 35) (vals 0)) (some 36) (vals 1)) (some 37) (vals 2)) (some 38) (vals 3)) (some 39) (vals 4)) (some 40) (vals 5)) (some 41) (vals 6)) (some 42) (vals 7)) (some 43) (vals 8)) (some 44) (vals 9)) (some 0) (vals 10)) = A := hA
            clear hA h V R U
            rw [u0, u1, u2, u3, u4, u5, u6, u7, u8, u9, u10] at hA2
            simp only [fill, Act.put, List.setIfInBounds_toArray, List.set_cons_succ, List.set_cons_zero] at hA2
            subst hA2
            clear u0 u1 u2 u3 u4 u5 u6 u7 u8 u9 u10
            have HPn := Lib.hid p10
            have HIo := Lib.hid hi
            clear p9 p10 hi
            go_wp2_with fail
            go_meet
            exact ⟨_, n9, _, rfl, Lib.hid (by rw [HL9.out trivial]; exact ⟨(HN9.out trivial).symm, HPn.out⟩), Lib.hid ⟨HK4.out.1.trans HIo.out.2.1, HK4.out.2.1.trans HIo.out.1, Nat.le_trans HSz.out HIo.out.2.2⟩⟩
        have HTe : Hid (tailB k n t m = []) := Lib.hid (by unfold tailB; simp [h0, h1, h2, h3, h4, h5])
        have n0 : (k == 0) = false := by simpa using h0
        have n1 : (k == 1) = false := by simpa using h1
        have n2 : (k == 2) = false := by simpa using h2
        have n3 : (k == 3) = false := by simpa using h3
        have n4' : (k == 4) = false := by simpa using h4
        have n5 : (k == 5) = false := by simpa using h5
        clear h0 h1 h2 h3 h4 h5
        go_wp2_with fail
        go_meet
        exact ⟨a4, n4, c4, rfl, Lib.hid (by rw [HTe.out, List.append_nil]; exact ⟨(HN4.out trivial).symm, HOw4.out⟩), HK4⟩
      case rest =>
        obtain ⟨a6, n6, c6, rfl, hc1, hc2⟩ := hcut
        have HWm := HM.out.2
        obtain ⟨g, o, HA, HG, HR⟩ : ∃ g o, Hid (ks ≠ [] → ap = some ⟨g, o, none⟩) ∧ Hid (ks ≠ [] → g < n₀) ∧ Hid (Row (· < n₀) W g o ks) := by
          rcases HL.out.row with e | ⟨g, o, ea, hg, hr⟩
          · have e : ks = [] := e
            subst e
            exact ⟨0, 0, Lib.hid (fun h => absurd rfl h), Lib.hid (fun h => absurd rfl h), Lib.hid (by unfold Row; trivial)⟩
          · exact ⟨g, o, Lib.hid (fun _ => ea), Lib.hid (fun _ => hg), Lib.hid hr⟩
        have hmc : (m : Int) ≤ (cap : Int) := by have : ks.length ≤ cap := HL.out.ok.2.2.2.1; omega
        have HMl := Lib.hid (fun _ : True => HWm)
        obtain ⟨T0, hT0⟩ : ∃ x, L4 ++ tailB k n t m = x := ⟨_, rfl⟩
        rw [hT0] at hc1 HTl
        clear hrun q0 q1 q2 q3 HAp HK4 HOw4 HN4 HWm hbc hbox hW1 b0 b1 b2 b3 hT0 f1 f2 f3
        go_wp2_with fail
        go_loopw [0, 5] (fun s0 i wr => ∃ (j : Nat) (ax : Option Addr) (nx cx : Nat) (lx : List Nat), s0 = .slice ax nx cx ∧ i = .int .i64 (j : Int) ∧ j ≤ m ∧ Hid (lx = bytesCs T0 ((ks.take j).map er)) ∧ Hid (nx = lx.length ∧ Fw.Own B (.slice ax nx cx) lx wr) ∧ Hid (KeepN W1 wr ∧ Below B W1 wr ∧ B ≤ wr.heap.size)) (fun _ i _ => m - (intOf i).toNat)
        case atStart => exact ⟨0, a6, n6, c6, T0, rfl, rfl, Nat.zero_le _, Lib.hid (by rw [List.take_zero, List.map_nil, bytesCs_nil]), hc1, hc2⟩
        case round =>
          obtain ⟨j, ax, nx, cx, lx, rfl, rfl, hj, HD, HO, HB⟩ := hrel
          obtain ⟨q0, q1, q2, q3⟩ := HBx.out wr HB.out.1
          by_cases hlt : j < m
          · have hlt2 : j < ks.length := by rw [HMl.out trivial]; exact hlt
            have hne : ks ≠ [] := fun e => by rw [e] at hlt2; simp at hlt2
            obtain rfl : ap = some ⟨g, o, none⟩ := HA.out hne
            obtain ⟨hat, hli⟩ : At4 W g (o + 4 * j) ks[j] ∧ Lies (· < n₀) W ks[j] := HR.out.get j hlt2
            have hmem : ks[j] ∈ ks := List.getElem_mem hlt2
            have htk : ks.take (j + 1) = ks.take j ++ [ks[j]] := List.take_succ_eq_append_getElem hlt2
            have hb0 : Below n₀ W wr := (HB1.out.1.trans HB.out.2.1).mono HN.out
            obtain ⟨d0, d1, d2, d3⟩ := hat.same (hb0.block g (HG.out hne))
            obtain ⟨x, hx⟩ : ∃ x, ks[j] = x := ⟨_, rfl⟩
            rw [hx] at hli hmem htk d0 d1 d2 d3
            rw [show o + 4 * j = o + j * 4 by omega] at d0 d1 d2 d3
            have hC := HIh.out x hmem B (.slice ax nx cx) lx wr (hli.below hb0) HN.out HB.out.2.2 HO.out.2
            unfold V.val at hC
            have HC := Lib.hid hC
            have HD2 : Hid (bytesC lx (er x) = bytesCs T0 ((ks.take (j + 1)).map er)) := Lib.hid (by rw [htk, List.map_append, List.map_cons, List.map_nil, bytesCs_snoc, ← HD.out])
            clear hne hat hli hmem htk hb0 hx hC HD HO hlt2
            go_wp2_with fail
            refine HC.out.mono ?_
            rintro e w6 ⟨r, rfl, ho6, hb6⟩
            obtain ⟨a7, c7, rfl⟩ := Fw.own_form ho6.out
            obtain ⟨l7, hl7⟩ : ∃ y, bytesC lx (er x) = y := ⟨_, rfl⟩
            have HO7 : Hid ((bytesC lx (er x)).length = (bytesC lx (er x)).length ∧ Fw.Own B (.slice a7 (bytesC lx (er x)).length c7) (bytesC lx (er x)) w6) := Lib.hid ⟨rfl, ho6.out⟩
            have HB7 := Lib.hid (show KeepN W1 w6 ∧ Below B W1 w6 ∧ B ≤ w6.heap.size from ⟨HB.out.1.trans hb6.out.2, HB.out.2.1.trans hb6.out.1, Nat.le_trans HB.out.2.2 hb6.out.1.size⟩)
            rw [hl7] at HD2 HO7 ⊢
            obtain ⟨n7, hn7⟩ : ∃ x, l7.length = x := ⟨_, rfl⟩
            have HO8 : Hid (n7 = l7.length ∧ Fw.Own B (.slice a7 n7 c7) l7 w6) := Lib.hid (by rw [← hn7]; exact HO7.out)
            rw [hn7]
            clear ho6 hb6 hl7 HO7 hn7 HC HB q0 q1 q2 q3 d0 d1 d2 d3
            go_wp2_with fail
            go_roundw
            case rel => exact ⟨j + 1, a7, n7, c7, l7, rfl, by go_num, by omega, HD2, HO8, HB7⟩
            case measure => simp [intOf]; omega
          · obtain rfl : j = m := by omega
            have hRL : RL = lx := by rw [HTl.out, HD.out, List.take_of_length_le (by have := HMl.out trivial; omega)]
            have HO9 : Hid (Fw.Own B (.slice ax nx cx) RL wr) := Lib.hid (hRL ▸ HO.out.2)
            have HB9 : Hid (Below B W wr ∧ KeepN W wr) := Lib.hid ⟨HB1.out.1.trans HB.out.2.1, HB1.out.2.2.trans HB.out.1⟩
            clear hRL HO HB
            go_wp2_with fail
            go_ret
            exact ⟨_, rfl, HO9, HB9⟩
end Go.Proofs.YtpacjcgpeomnaaaDoor
