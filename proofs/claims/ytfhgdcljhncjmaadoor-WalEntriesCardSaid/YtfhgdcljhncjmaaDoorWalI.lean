/- The head that counts. -/
import Derived.Test.YtfhgdcljhncjmaaDoorWalL
import Derived.Test.YtfhgdcljhncjmaaDoorShelf
import Derived.Test.YtfhgdcljhncjmaaDoorReg
namespace Go.Proofs.YtfhgdcljhncjmaaDoor
open Go.ChangeShapes Go.WideShapes Go.ChangeAt Go.RowKit
set_option linter.unusedVariables false
set_option maxRecDepth 20000

theorem src_off {W : World} {gz k : Nat} {A : List Nat} (h : Fc.Src W (some ⟨gz, 0, none⟩) A) : Fw.Src W (some ⟨gz, k, none⟩) (A.drop k) := fun hp => ⟨⟨gz, k, none⟩, rfl, fun i hi => by
  rw [List.length_drop] at hi hp
  obtain ⟨g', o', e, hc⟩ := h (by omega)
  cases e
  have e1 : (⟨gz, k, none⟩ : Addr).add i = ⟨gz, k + i, none⟩ := by unfold Addr.add; split <;> simp_all
  have h2 := hc (k + i) (by omega)
  rw [Nat.zero_add] at h2
  rw [e1, h2]; simp [List.getD, List.getElem?_drop]⟩
theorem open_sec (A : List Nat) (hA : A.length = 512) (k m : Nat) (hkm : k + m = 512) (W : World) (gz c : Nat) (h : Fc.Src W (some ⟨gz, 0, none⟩) A) :
    Calls Tryd.prog 61 #[.slice (some ⟨gz, k, none⟩) m c] W fun e w' => ∃ g, e = .returned (.pointer (some ⟨g, 0, none⟩)) ∧ W.heap.size ≤ g ∧ Fw.Box w' g (A.drop k) 0 ∧ Below W.heap.size W w' := by
  have hl : (A.drop k).length = m := by rw [List.length_drop]; omega
  have h1 := Fw.open_any (some ⟨gz, k, none⟩) c (A.drop k) (by omega) W (Lib.hid (src_off h))
  rw [hl] at h1
  exact h1
theorem drop_byte {A : List Nat} (h : ∀ b ∈ A, b < 256) (k : Nat) : ∀ b ∈ A.drop k, b < 256 := fun b hb => h b (List.mem_of_mem_drop hb)
theorem rdB_int (lo hi : Int) (L : List Nat) (hB : ∀ b ∈ L, b < 256) : -9223372036854775808 ≤ (Fw.rdB lo hi L).1 ∧ (Fw.rdB lo hi L).1 ≤ 9223372036854775807 := by
  unfold Fw.rdB
  split
  · constructor <;> decide
  · exact Fw.rd_int L hB
theorem head_len (a : Int) (h1 : -9223372036854775808 ≤ a) (h2 : a ≤ 9223372036854775807) : (headL a).length ≤ 512 := by
  have := Fw.vb_ten _ (Fw.zz_lt a h1 h2)
  unfold headL closeL
  simp only [List.length_append, List.length_cons, List.length_nil, Fc.four]
  omega
theorem head_byte (a : Int) : ∀ b ∈ headL a, b < 256 := by
  intro b hb
  unfold headL closeL at hb
  rcases List.mem_append.1 hb with h | h
  · rcases List.mem_append.1 h with h | h
    · simp at h; omega
    · exact Fw.vb_byte _ b h
  · exact Fc.four_byte _ b h
/-- a sector that was read against one that is made -/
theorem eq_sec (A M : List Nat) (hA : A.length = 512) (hAb : ∀ b ∈ A, b < 256) (hM : M.length ≤ 512) (hMb : ∀ b ∈ M, b < 256) (W : World) (ga ca gb : Nat) (hs : Fc.Src W (some ⟨ga, 0, none⟩) A) (hr : SecRow W gb M) :
    Calls Tryd.prog 63 #[.slice (some ⟨ga, 0, none⟩) 512 ca, .slice (some ⟨gb, 0, none⟩) 512 512] W fun e w' => e = .returned (.bool (decide (A = padL M))) ∧ W = w' := by
  have h1 := Fc.src_conv hs ca (by omega)
  rw [hA] at h1
  have h2 := sec_conv' hr hM
  refine (Tryd.bytes_Equal_strs _ _ _ _ W h1 h2).mono ?_
  rintro e w' ⟨rfl, rfl⟩
  refine ⟨?_, rfl⟩
  by_cases e : A = padL M
  · subst e
    rw [decide_eq_true rfl]
    have : Fc.sv (padL M) = sec M := rfl
    rw [this]; simp
  · rw [decide_eq_false e]
    have hne : ¬ Fc.sv A = sec M := fun h => e (Fc.sv_inj hAb (padL_byte hMb) h)
    have := Fc.str_ne hne
    simp only [Bool.not_eq_true'] at this
    rw [this]
theorem dq_only {B : Nat} {w w' : World} {g L k l : Nat} {ns : List ByteArray} (h : Dq B w g L ns k) (ho : Fk.Only (· = l) w w') (hl : ∃ cs fr, w.heap[l]? = some (.cells cs 71 fr)) : Dq B w' g L ns k := by
  obtain ⟨gn, gl, cn, cl, vw, ls, W, st, h1, h2⟩ := h
  obtain ⟨⟨c1, f1, t1⟩, ⟨c2, t2⟩, ⟨c3, t3⟩, t4⟩ := dk_types h1
  obtain ⟨c0, f0, t0⟩ := hl
  refine ⟨gn, gl, cn, cl, vw, ls, W, st, ⟨Fk.head_only h1.head ho fun e => ?_, Fk.own_only h1.now ho fun q hq e => ?_, Fk.own_only h1.rows ho fun q hq e => ?_, Fk.own_only h1.own ho fun q hq e => ?_, h1.ge, h1.ne⟩, h2⟩
  · rw [← e, t1] at t0; exact absurd t0 (by simp)
  · cases hq; rw [← e, t2] at t0; exact absurd t0 (by simp)
  · cases hq; rw [← e, t3] at t0; exact absurd t0 (by simp)
  · obtain ⟨c4, t5⟩ := t4 q hq
    rw [← e, t5] at t0; exact absurd t0 (by simp)
theorem log_type {w : World} {l g : Nat} {f en nx nr ag hd fl : Int} (h : LogAt w l g f en nx nr ag hd fl) : ∃ cs fr, w.heap[l]? = some (.cells cs 71 fr) := ⟨_, _, h⟩
theorem log_below {w w' : World} {l g : Nat} {f en nx nr ag hd fl : Int} (h : LogAt w l g f en nx nr ag hd fl) (hb : Below w.heap.size w w') : LogAt w' l g f en nx nr ag hd fl := log_keep h (KeepT.of_below (g := g) hb)
/-- the age that a sector tells; which head counts, and its age -/
def ageOf (A : List Nat) : Int := (Fw.rdB 1 4611686018427387904 (A.drop 2)).1
def headStep (p : Int × Int) (i : Int) (A : List Nat) : Int × Int := if p.1 < ageOf A ∧ A = padL (headL (ageOf A)) then (ageOf A, i) else p
def stAt (As : Nat → List Nat) : Nat → Int × Int
  | 0 => (0, 0)
  | j + 1 => headStep (stAt As j) j (As j)
set_option maxHeartbeats 2000000 in
theorem findHead_any {B : Nat} {w : World} {g L k l : Nat} {ns : List ByteArray} {en nx nr fl : Int} (h : Dq B w g L ns k) (fs : Nat) (haL : fs + 2 ≤ L) (hL : L ≤ 1000) (As : Nat → List Nat) (hAs : ∀ j, j < 2 → ns[fs + j]? = some (Fw.sv (As j)) ∧ (As j).length = 512 ∧ ∀ b ∈ As j, b < 256) (hlog : LogAt w l g (fs : Int) en nx nr 0 0 fl) (hBl : B ≤ l) (hG : 0 < B) (ht : Hid (Fc.Tab w)) :
    Calls Tryd.prog 38 #[.pointer (some ⟨l, 0, none⟩)] w fun e w' => e = .returned (.int .i64 (if (stAt As 2).1 = 0 then 9 else 0)) ∧ LogAt w' l g (fs : Int) en nx nr (stAt As 2).1 (stAt As 2).2 fl ∧ Dq B w' g L ns k ∧ Fk.Only (· = l) w w' := by
  have H0 := Lib.hid h
  have HL0 := Lib.hid hlog
  have HAs := Lib.hid hAs
  have hl1 := log_lt hlog
  have hB1 := (dq_lt h).2.2
  clear h hlog hAs
  go_enter Tryd.func38, Tryd.ntmps38
  go_wp2_with fail
  go_loopw [7] (fun i wr => ∃ j : Nat, i = .int .i64 (j : Int) ∧ j ≤ 2 ∧ Hid (LogAt wr l g (fs : Int) en nx nr (stAt As j).1 (stAt As j).2 fl) ∧ Hid (Fk.Only (· = l) w wr)) (fun i _ => 2 - (intOf i).toNat)
  case atStart => exact ⟨0, rfl, by omega, HL0, Lib.hid (Fk.Only.refl _ _)⟩
  case round =>
    obtain ⟨j, rfl, hj2, hlg, hon⟩ := hrel
    have hD := Lib.hid (dq_only H0.out hon.out (log_type HL0.out))
    have hT := Lib.hid (tab_keep hG ht.out (hon.out.below (B := B) (fun q e => by rw [e]; exact hBl) hB1))
    obtain ⟨cur, hcur⟩ : ∃ c, (stAt As j).1 = c := ⟨_, rfl⟩
    obtain ⟨chd, hchd⟩ : ∃ c, (stAt As j).2 = c := ⟨_, rfl⟩
    have Hst := Lib.hid (fun _ : True => And.intro hcur hchd)
    rw [hcur, hchd] at hlg
    clear hcur hchd
    by_cases hj : j < 2
    · obtain ⟨hn, hA, hAb⟩ := HAs.out j hj
      have HC0 := Lib.hid (fun W (hb : Below wr.heap.size wr W) => (log_cells (log_below hlg.out hb)).1)
      have HC1 := Lib.hid (fun W (hb : Below wr.heap.size wr W) => (log_cells (log_below hlg.out hb)).2.1)
      have HRd : Hid (∀ W, Below wr.heap.size wr W → Calls Tryd.prog 31 #[.pointer (some ⟨g, 0, none⟩), .int .i64 ((fs : Int) + (j : Int))] W fun e w' => ∃ cap, e = .returned (.tuple #[.slice (some ⟨W.heap.size, 0, none⟩) 512 cap, .int .i64 0]) ∧ 512 ≤ cap ∧ Fc.Src w' (some ⟨W.heap.size, 0, none⟩) (As j) ∧ Below W.heap.size W w') := Lib.hid fun W hb => by
        have hsz : (Fw.sv (As j)).size = 512 := by rw [Fw.sv_size, hA]
        refine (dq_read2 (dq_below hD.out hb) ((fs : Int) + (j : Int)) (fs + j) (by push_cast; rfl) (by omega) _ hn).mono ?_
        rintro e w' ⟨cap, rfl, a0, a1, a2, a3⟩
        rw [hsz] at a0
        rw [bytesOf_sv _ hAb] at a1
        rw [hsz]
        exact ⟨cap, rfl, a0, a1, a3⟩
      have HOp := Lib.hid (fun W gz c (hs : Fc.Src W (some ⟨gz, 0, none⟩) (As j)) => open_sec (As j) hA 2 510 rfl W gz c hs)
      have HNm := Lib.hid (fun W gi (hb : Hid (Fw.Box W gi ((As j).drop 2) 0)) => Fw.inNum_any gi ((As j).drop 2) 1 4611686018427387904 (by rw [List.length_drop]; omega) (drop_byte hAb 2) W hb)
      have hbd := rdB_int 1 4611686018427387904 _ (drop_byte hAb 2)
      obtain ⟨ag, hag⟩ : ∃ x, (Fw.rdB 1 4611686018427387904 ((As j).drop 2)).1 = x := ⟨_, rfl⟩
      have Hag : Hid (True → ageOf (As j) = ag) := Lib.hid fun _ => hag
      rw [hag] at HNm hbd
      have HHd := Lib.hid (fun W (hW : Hid (Fc.Tab W)) => head_any ag hbd.1 hbd.2 W hW)
      have HEq := Lib.hid (fun W ga ca gb hs hr => eq_sec (As j) (headL ag) hA hAb (head_len ag hbd.1 hbd.2) (head_byte ag) W ga ca gb hs hr)
      have HSt : Hid (True → stAt As (j + 1) = if cur < ag ∧ As j = padL (headL ag) then (ag, (j : Int)) else (cur, chd)) := Lib.hid fun _ => by
        obtain ⟨e1, e2⟩ := Hst.out trivial
        have e3 : stAt As j = (cur, chd) := Prod.ext e1 e2
        show headStep (stAt As j) (j : Int) (As j) = _
        unfold headStep
        rw [e3, Hag.out trivial]
      clear hn hA hAb hag
      go_wp2_with fail
      let R : World → World → Prop := fun W W2 => Below W.heap.size W W2
      let V : Nat → Value → World → Prop := fun jX v W => match jX with | 0 => v = .pointer (some ⟨l, 0, none⟩) | 1 => v = .pointer (some ⟨l, 0, none⟩) | 2 => v = .pointer (some ⟨l, 0, none⟩) | 3 => v = .pointer (some ⟨g, 0, none⟩) | 4 => v = .pointer (some ⟨l, 0, none⟩) | 5 => v = .pointer (some ⟨l, 0, none⟩) | 6 => v = .pointer (some ⟨l, 1, none⟩) | 7 => v = .int .i64 (fs : Int) | 8 => v = .int .i64 (j : Int) | 9 => v = .int .i64 ((fs : Int) + (j : Int)) | 10 => ∃ ga ca, v = .tuple #[.slice (some ⟨ga, 0, none⟩) 512 ca, .int .i64 0] ∧ wr.heap.size ≤ ga ∧ 512 ≤ ca ∧ Fc.Src W (some ⟨ga, 0, none⟩) (As j) | 11 => ∃ gb cb, v = .tuple #[.slice (some ⟨gb, 0, none⟩) 512 cb, .int .i64 0] ∧ wr.heap.size ≤ gb ∧ 512 ≤ cb ∧ Fc.Src W (some ⟨gb, 0, none⟩) (As j) | 12 => ∃ gc cc, v = .slice (some ⟨gc, 0, none⟩) 512 cc ∧ wr.heap.size ≤ gc ∧ 512 ≤ cc ∧ Fc.Src W (some ⟨gc, 0, none⟩) (As j) | 13 => v = .int .i64 0 | 14 => ∃ gd cd, v = .slice (some ⟨gd, 0, none⟩) 512 cd ∧ wr.heap.size ≤ gd ∧ 512 ≤ cd ∧ Fc.Src W (some ⟨gd, 0, none⟩) (As j) | 15 => v = .int .i64 0 | _ => True
      refine wp_region_fill (by kernel_rfl) V (fun W => Below wr.heap.size wr W) R (by kernel_rfl) (by kernel_rfl) ((Below.refl _ _).drew) (fun W W2 hr hi => hi.trans (hr.mono hi.size)) ?_ ?_ ?_
      · intro jX v W W2 hr h
        match jX, h with
        | 0, h => exact h
        | 1, h => exact h
        | 2, h => exact h
        | 3, h => exact h
        | 4, h => exact h
        | 5, h => exact h
        | 6, h => exact h
        | 7, h => exact h
        | 8, h => exact h
        | 9, h => exact h
        | 10, h => obtain ⟨ga, ca, h1, h2⟩ := h; exact ⟨ga, ca, h1, ⟨h2.1, h2.2.1, Fc.src_later h2.2.2 hr⟩⟩
        | 11, h => obtain ⟨gb, cb, h1, h2⟩ := h; exact ⟨gb, cb, h1, ⟨h2.1, h2.2.1, Fc.src_later h2.2.2 hr⟩⟩
        | 12, h => obtain ⟨gc, cc, h1, h2⟩ := h; exact ⟨gc, cc, h1, ⟨h2.1, h2.2.1, Fc.src_later h2.2.2 hr⟩⟩
        | 13, h => exact h
        | 14, h => obtain ⟨gd, cd, h1, h2⟩ := h; exact ⟨gd, cd, h1, ⟨h2.1, h2.2.1, Fc.src_later h2.2.2 hr⟩⟩
        | 15, h => exact h
        | nX + 16, h => exact h
      · intro iX o ho a W hN hi h
        match iX, ho with
        | 0, ho =>
          obtain rfl := Option.some.inj (show some _ = some o from ho)
          have e0 : a.eval (.tmp 0) = .pointer (some ⟨l, 0, none⟩) := hN.eval 0 (by kernel_rfl)
          refine fill_value (v := .pointer (some ⟨l, 0, none⟩)) ho rfl (by rfl) (by clear h hN; have hcst : ∀ v, a.eval (.const v) = v := (fun _ => rfl); have hfun : ∀ f, a.eval (.func f) = .func (.func f) #[] #[] := (fun _ => rfl); generalize a.eval = ρ at *; go_simp) rfl (Below.refl _ _)
        | 1, ho =>
          obtain rfl := Option.some.inj (show some _ = some o from ho)
          have e11 : a.eval (.tmp 11) = .pointer (some ⟨l, 0, none⟩) := h ⟨0, .data⟩ (by simp) rfl
          refine fill_value (v := .pointer (some ⟨l, 0, none⟩)) ho rfl (by rfl) (by clear h hN; have hcst : ∀ v, a.eval (.const v) = v := (fun _ => rfl); have hfun : ∀ f, a.eval (.func f) = .func (.func f) #[] #[] := (fun _ => rfl); generalize a.eval = ρ at *; go_simp) rfl (Below.refl _ _)
        | 2, ho =>
          obtain rfl := Option.some.inj (show some _ = some o from ho)
          have e12 : a.eval (.tmp 12) = .pointer (some ⟨l, 0, none⟩) := h ⟨1, .data⟩ (by simp) rfl
          refine fill_value (v := .pointer (some ⟨l, 0, none⟩)) ho rfl (by rfl) (by clear h hN; have hcst : ∀ v, a.eval (.const v) = v := (fun _ => rfl); have hfun : ∀ f, a.eval (.func f) = .func (.func f) #[] #[] := (fun _ => rfl); generalize a.eval = ρ at *; go_simp) rfl (Below.refl _ _)
        | 3, ho =>
          obtain rfl := Option.some.inj (show some _ = some o from ho)
          have e13 : a.eval (.tmp 13) = .pointer (some ⟨l, 0, none⟩) := h ⟨2, .data⟩ (by simp) rfl
          have hc := HC0.out W hi
          refine fill_value (v := .pointer (some ⟨g, 0, none⟩)) ho rfl (by rfl) (by clear h hN; have hcst : ∀ v, a.eval (.const v) = v := (fun _ => rfl); have hfun : ∀ f, a.eval (.func f) = .func (.func f) #[] #[] := (fun _ => rfl); generalize a.eval = ρ at *; go_simp) rfl (Below.refl _ _)
        | 4, ho =>
          obtain rfl := Option.some.inj (show some _ = some o from ho)
          have e0 : a.eval (.tmp 0) = .pointer (some ⟨l, 0, none⟩) := hN.eval 0 (by kernel_rfl)
          refine fill_value (v := .pointer (some ⟨l, 0, none⟩)) ho rfl (by rfl) (by clear h hN; have hcst : ∀ v, a.eval (.const v) = v := (fun _ => rfl); have hfun : ∀ f, a.eval (.func f) = .func (.func f) #[] #[] := (fun _ => rfl); generalize a.eval = ρ at *; go_simp) rfl (Below.refl _ _)
        | 5, ho =>
          obtain rfl := Option.some.inj (show some _ = some o from ho)
          have e15 : a.eval (.tmp 15) = .pointer (some ⟨l, 0, none⟩) := h ⟨4, .data⟩ (by simp) rfl
          refine fill_value (v := .pointer (some ⟨l, 0, none⟩)) ho rfl (by rfl) (by clear h hN; have hcst : ∀ v, a.eval (.const v) = v := (fun _ => rfl); have hfun : ∀ f, a.eval (.func f) = .func (.func f) #[] #[] := (fun _ => rfl); generalize a.eval = ρ at *; go_simp) rfl (Below.refl _ _)
        | 6, ho =>
          obtain rfl := Option.some.inj (show some _ = some o from ho)
          have e16 : a.eval (.tmp 16) = .pointer (some ⟨l, 0, none⟩) := h ⟨5, .data⟩ (by simp) rfl
          refine fill_value (v := .pointer (some ⟨l, 1, none⟩)) ho rfl (by rfl) (by clear h hN; have hcst : ∀ v, a.eval (.const v) = v := (fun _ => rfl); have hfun : ∀ f, a.eval (.func f) = .func (.func f) #[] #[] := (fun _ => rfl); generalize a.eval = ρ at *; go_simp) rfl (Below.refl _ _)
        | 7, ho =>
          obtain rfl := Option.some.inj (show some _ = some o from ho)
          have e17 : a.eval (.tmp 17) = .pointer (some ⟨l, 1, none⟩) := h ⟨6, .data⟩ (by simp) rfl
          have hc := HC1.out W hi
          refine fill_value (v := .int .i64 (fs : Int)) ho rfl (by rfl) (by clear h hN; have hcst : ∀ v, a.eval (.const v) = v := (fun _ => rfl); have hfun : ∀ f, a.eval (.func f) = .func (.func f) #[] #[] := (fun _ => rfl); generalize a.eval = ρ at *; go_simp) rfl (Below.refl _ _)
        | 8, ho =>
          obtain rfl := Option.some.inj (show some _ = some o from ho)
          have e3 : a.eval (.tmp 3) = .int .i64 (j : Int) := hN.eval 3 (by kernel_rfl)
          refine fill_value (v := .int .i64 (j : Int)) ho rfl (by rfl) (by clear h hN; have hcst : ∀ v, a.eval (.const v) = v := (fun _ => rfl); have hfun : ∀ f, a.eval (.func f) = .func (.func f) #[] #[] := (fun _ => rfl); generalize a.eval = ρ at *; go_simp) rfl (Below.refl _ _)
        | 9, ho =>
          obtain rfl := Option.some.inj (show some _ = some o from ho)
          have e18 : a.eval (.tmp 18) = .int .i64 (fs : Int) := h ⟨7, .data⟩ (by simp) rfl
          have e19 : a.eval (.tmp 19) = .int .i64 (j : Int) := h ⟨8, .data⟩ (by simp) rfl
          have hwj : IntKind.i64.wrap ((fs : Int) + (j : Int)) = (fs : Int) + (j : Int) := by rw [IntKind.wrap_i64]; omega
          refine fill_value (v := .int .i64 ((fs : Int) + (j : Int))) ho rfl (by rfl) (by clear h hN; have hcst : ∀ v, a.eval (.const v) = v := (fun _ => rfl); have hfun : ∀ f, a.eval (.func f) = .func (.func f) #[] #[] := (fun _ => rfl); generalize a.eval = ρ at *; go_simp) rfl (Below.refl _ _)
        | 10, ho =>
          obtain rfl := Option.some.inj (show some _ = some o from ho)
          have e14 : a.eval (.tmp 14) = .pointer (some ⟨g, 0, none⟩) := h ⟨3, .data⟩ (by simp) rfl
          have e20 : a.eval (.tmp 20) = .int .i64 ((fs : Int) + (j : Int)) := h ⟨9, .data⟩ (by simp) rfl
          refine fill_enter (f := 31) (args := #[.pointer (some ⟨g, 0, none⟩), .int .i64 ((fs : Int) + (j : Int))]) ho rfl (by rfl) (by clear h hN; have hcst : ∀ v, a.eval (.const v) = v := (fun _ => rfl); have hfun : ∀ f, a.eval (.func f) = .func (.func f) #[] #[] := (fun _ => rfl); generalize a.eval = ρ at *; go_simp) (HRd.out W hi) ?_
          rintro e w2 ⟨cp, rfl, h4, h5, h6⟩
          exact ⟨_, rfl, ⟨_, cp, rfl, hi.size, h4, h5⟩, h6⟩
        | 11, ho =>
          obtain rfl := Option.some.inj (show some _ = some o from ho)
          obtain ⟨ga, ca, e21, p21⟩ : ∃ ga ca, a.eval (.tmp 21) = .tuple #[.slice (some ⟨ga, 0, none⟩) 512 ca, .int .i64 0] ∧ wr.heap.size ≤ ga ∧ 512 ≤ ca ∧ Fc.Src W (some ⟨ga, 0, none⟩) (As j) := h ⟨10, .data⟩ (by simp) rfl
          refine fill_value (v := .tuple #[.slice (some ⟨ga, 0, none⟩) 512 ca, .int .i64 0]) ho rfl (by rfl) (by clear h hN; have hcst : ∀ v, a.eval (.const v) = v := (fun _ => rfl); have hfun : ∀ f, a.eval (.func f) = .func (.func f) #[] #[] := (fun _ => rfl); generalize a.eval = ρ at *; go_simp) ⟨ga, ca, rfl, p21⟩ (Below.refl _ _)
        | 12, ho =>
          obtain rfl := Option.some.inj (show some _ = some o from ho)
          obtain ⟨gb, cb, e10, p10⟩ : ∃ gb cb, a.eval (.tmp 10) = .tuple #[.slice (some ⟨gb, 0, none⟩) 512 cb, .int .i64 0] ∧ wr.heap.size ≤ gb ∧ 512 ≤ cb ∧ Fc.Src W (some ⟨gb, 0, none⟩) (As j) := h ⟨11, .data⟩ (by simp) rfl
          refine fill_value (v := .slice (some ⟨gb, 0, none⟩) 512 cb) ho rfl (by rfl) (by clear h hN; have hcst : ∀ v, a.eval (.const v) = v := (fun _ => rfl); have hfun : ∀ f, a.eval (.func f) = .func (.func f) #[] #[] := (fun _ => rfl); generalize a.eval = ρ at *; go_simp) ⟨gb, cb, rfl, p10⟩ (Below.refl _ _)
        | 13, ho =>
          obtain rfl := Option.some.inj (show some _ = some o from ho)
          obtain ⟨gb, cb, e10, p10⟩ : ∃ gb cb, a.eval (.tmp 10) = .tuple #[.slice (some ⟨gb, 0, none⟩) 512 cb, .int .i64 0] ∧ wr.heap.size ≤ gb ∧ 512 ≤ cb ∧ Fc.Src W (some ⟨gb, 0, none⟩) (As j) := h ⟨11, .data⟩ (by simp) rfl
          refine fill_value (v := .int .i64 0) ho rfl (by rfl) (by clear h hN; have hcst : ∀ v, a.eval (.const v) = v := (fun _ => rfl); have hfun : ∀ f, a.eval (.func f) = .func (.func f) #[] #[] := (fun _ => rfl); generalize a.eval = ρ at *; go_simp) rfl (Below.refl _ _)
        | 14, ho =>
          obtain rfl := Option.some.inj (show some _ = some o from ho)
          obtain ⟨gc, cc, e22, p22⟩ : ∃ gc cc, a.eval (.tmp 22) = .slice (some ⟨gc, 0, none⟩) 512 cc ∧ wr.heap.size ≤ gc ∧ 512 ≤ cc ∧ Fc.Src W (some ⟨gc, 0, none⟩) (As j) := h ⟨12, .data⟩ (by simp) rfl
          refine fill_value (v := .slice (some ⟨gc, 0, none⟩) 512 cc) ho rfl (by rfl) (by clear h hN; have hcst : ∀ v, a.eval (.const v) = v := (fun _ => rfl); have hfun : ∀ f, a.eval (.func f) = .func (.func f) #[] #[] := (fun _ => rfl); generalize a.eval = ρ at *; go_simp) ⟨gc, cc, rfl, p22⟩ (Below.refl _ _)
        | 15, ho =>
          obtain rfl := Option.some.inj (show some _ = some o from ho)
          have e23 : a.eval (.tmp 23) = .int .i64 0 := h ⟨13, .data⟩ (by simp) rfl
          refine fill_value (v := .int .i64 0) ho rfl (by rfl) (by clear h hN; have hcst : ∀ v, a.eval (.const v) = v := (fun _ => rfl); have hfun : ∀ f, a.eval (.func f) = .func (.func f) #[] #[] := (fun _ => rfl); generalize a.eval = ρ at *; go_simp) rfl (Below.refl _ _)
        | nX + 16, ho => exact absurd ho (by simp)
      · intro vals W hi h
        have u0 : vals 0 = .pointer (some ⟨l, 0, none⟩) := h 0 (by decide)
        have u1 : vals 1 = .pointer (some ⟨l, 0, none⟩) := h 1 (by decide)
        have u2 : vals 2 = .pointer (some ⟨l, 0, none⟩) := h 2 (by decide)
        have u3 : vals 3 = .pointer (some ⟨g, 0, none⟩) := h 3 (by decide)
        have u4 : vals 4 = .pointer (some ⟨l, 0, none⟩) := h 4 (by decide)
        have u5 : vals 5 = .pointer (some ⟨l, 0, none⟩) := h 5 (by decide)
        have u6 : vals 6 = .pointer (some ⟨l, 1, none⟩) := h 6 (by decide)
        have u7 : vals 7 = .int .i64 (fs : Int) := h 7 (by decide)
        have u8 : vals 8 = .int .i64 (j : Int) := h 8 (by decide)
        have u9 : vals 9 = .int .i64 ((fs : Int) + (j : Int)) := h 9 (by decide)
        obtain ⟨ga, ca, u10, p10⟩ : ∃ ga ca, vals 10 = .tuple #[.slice (some ⟨ga, 0, none⟩) 512 ca, .int .i64 0] ∧ wr.heap.size ≤ ga ∧ 512 ≤ ca ∧ Fc.Src W (some ⟨ga, 0, none⟩) (As j) := h 10 (by decide)
        obtain ⟨gb, cb, u11, p11⟩ : ∃ gb cb, vals 11 = .tuple #[.slice (some ⟨gb, 0, none⟩) 512 cb, .int .i64 0] ∧ wr.heap.size ≤ gb ∧ 512 ≤ cb ∧ Fc.Src W (some ⟨gb, 0, none⟩) (As j) := h 11 (by decide)
        obtain ⟨gc, cc, u12, p12⟩ : ∃ gc cc, vals 12 = .slice (some ⟨gc, 0, none⟩) 512 cc ∧ wr.heap.size ≤ gc ∧ 512 ≤ cc ∧ Fc.Src W (some ⟨gc, 0, none⟩) (As j) := h 12 (by decide)
        have u13 : vals 13 = .int .i64 0 := h 13 (by decide)
        obtain ⟨gd, cd, u14, p14⟩ : ∃ gd cd, vals 14 = .slice (some ⟨gd, 0, none⟩) 512 cd ∧ wr.heap.size ≤ gd ∧ 512 ≤ cd ∧ Fc.Src W (some ⟨gd, 0, none⟩) (As j) := h 14 (by decide)
        have u15 : vals 15 = .int .i64 0 := h 15 (by decide)
        generalize hA : fill _ _ _ _ = A
        have hA2 : (Act.put (Act.put (Act.put (Act.put (Act.put (Act.put (Act.put (Act.put (Act.put (Act.put (Act.put (Act.put (Act.put (Act.put (Act.put (Act.put (_ : Act) (some 11) (vals 0)) (some 12) (vals 1)) (some 13) (vals 2)) (some 14) (vals 3)) (some 15) (vals 4)) (some 16) (vals 5)) (some 17) (vals 6)) (some 18) (vals 7)) (some 19) (vals 8)) (some 20) (vals 9)) (some 21) (vals 10)) (some 10) (vals 11)) (some 22) (vals 12)) (some 23) (vals 13)) (some 4) (vals 14)) (some 5) (vals 15)) = A := hA
        clear hA h V R
        rw [u0, u1, u2, u3, u4, u5, u6, u7, u8, u9, u10, u11, u12, u13, u14, u15] at hA2
        simp only [fill, Act.put, List.setIfInBounds_toArray, List.set_cons_succ, List.set_cons_zero] at hA2
        subst hA2
        clear u0 u1 u2 u3 u4 u5 u6 u7 u8 u9 u10 u11 u12 u13 u14 u15
        have hcd := p14.2.1
        have hsrc := Lib.hid p14
        have hiw := Lib.hid hi
        clear p10 p11 p12 p14 hi
        have hcd2 : (2 : Int) ≤ (cd : Int) := by omega
        have hcd3 : ¬ cd = 2 := by omega
        have hcd4 : ¬ cd - 2 = 0 := by omega
        go_wp2_with fail
        refine (HOp.out W gd (cd - 2) hsrc.out.2.2).mono ?_
        rintro e w2 ⟨gi, rfl, hgi, hbx, hb2⟩
        go_wp2_with fail
        refine (HNm.out w2 gi (Lib.hid hbx)).mono ?_
        rintro e w3 ⟨rfl, _, hb3⟩
        have hb23 : Below wr.heap.size wr w3 := hiw.out.trans ((hb2.mono hiw.out.size).trans (hb3.mono (Nat.le_trans hiw.out.size hgi)))
        have hl3 := Lib.hid (log_below hlg.out hb23)
        have hT3 := Lib.hid (Fc.tab_later hT.out hb23)
        have hs3 := Lib.hid (Fc.src_later hsrc.out.2.2 (hb2.trans (hb3.mono hgi)))
        have hon3 := Lib.hid (hon.out.trans (Fk.Only.of_below hb23))
        have c5 := (log_cells hl3.out).2.2.2.2.2.1
        clear hb23 hb3 hb2 hbx hgi
        by_cases hA : cur < ag
        · have hdec : decide (cur < ag) = true := decide_eq_true hA
          go_wp2_with fail
          refine (HHd.out w3 hT3).mono ?_
          rintro e w4 ⟨gh, rfl, hgh, hr4, hb4, _⟩
          have HE := Lib.hid (HEq.out w4 gd cd gh (Fc.src_later hs3.out hb4) hr4)
          have hl4 := Lib.hid (log_below hl3.out hb4)
          have hon4 := Lib.hid (hon3.out.trans (Fk.Only.of_below hb4))
          have f5 := log_free hl4.out 5
          have f6 := log_free hl4.out 6
          have d5 := (log_cells hl4.out).2.2.2.2.2.1
          have d6 := (log_cells hl4.out).2.2.2.2.2.2.1
          clear hb4 hr4 hgh
          by_cases hE : As j = padL (headL ag)
          · rw [decide_eq_true hE] at HE
            have HS2 : Hid (True → stAt As (j + 1) = (ag, (j : Int))) := Lib.hid fun _ => by rw [HSt.out trivial, if_pos ⟨hA, hE⟩]
            clear hE HSt
            go_wp2_with fail
            refine HE.out.mono ?_
            rintro e w5 ⟨rfl, rfl⟩
            go_wp2_with fail
            go_roundw
            case rel => exact ⟨j + 1, by go_num, by omega, Lib.hid (by rw [HS2.out trivial]; exact log_set6 (log_set5 hl4.out ag) (j : Int)), Lib.hid (Fk.only_set (Fk.only_set hon4.out 5 _) 6 _)⟩
            case measure => simp [intOf]; omega
          · rw [decide_eq_false hE] at HE
            have HS2 : Hid (True → stAt As (j + 1) = (cur, chd)) := Lib.hid fun _ => by rw [HSt.out trivial, if_neg fun h => hE h.2]
            clear hE HSt
            go_wp2_with fail
            refine HE.out.mono ?_
            rintro e w5 ⟨rfl, rfl⟩
            go_wp2_with fail
            go_roundw
            case rel => exact ⟨j + 1, by go_num, by omega, Lib.hid (by rw [HS2.out trivial]; exact hl4.out), Lib.hid hon4.out⟩
            case measure => simp [intOf]; omega
        · have hdec : decide (cur < ag) = false := decide_eq_false hA
          have HS2 : Hid (True → stAt As (j + 1) = (cur, chd)) := Lib.hid fun _ => by rw [HSt.out trivial, if_neg fun h => hA h.1]
          clear HSt
          go_wp2_with fail
          go_roundw
          case rel => exact ⟨j + 1, by go_num, by omega, Lib.hid (by rw [HS2.out trivial]; exact hl3.out), Lib.hid hon3.out⟩
          case measure => simp [intOf]; omega
    · obtain rfl : j = 2 := by omega
      obtain ⟨e1, e2⟩ := Hst.out trivial
      have hc5 := (log_cells hlg.out).2.2.2.2.2.1
      by_cases h0 : cur = 0
      · subst h0
        go_wp2_with fail
        go_ret
        exact ⟨by first | rfl | (rw [e1, if_pos rfl]), by first | exact hlg.out | (rw [e1, e2]; exact hlg.out), hD.out, hon.out⟩
      · have h0' : decide (cur = 0) = false := decide_eq_false h0
        go_wp2_with fail
        go_ret
        exact ⟨by first | rfl | (rw [e1, if_neg h0]) | (rw [if_neg h0]; rfl), by first | exact hlg.out | (rw [e1, e2]; exact hlg.out), hD.out, hon.out⟩
end Go.Proofs.YtfhgdcljhncjmaaDoor
