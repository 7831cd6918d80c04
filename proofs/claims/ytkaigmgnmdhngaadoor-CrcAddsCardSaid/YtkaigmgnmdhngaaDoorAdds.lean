/- The walk of the law CrcAdds. -/
import Derived.Test.YtkaigmgnmdhngaaDoorOpensLaw
import Derived.Test.YtkaigmgnmdhngaaDoorFree
import Derived.Deep.AppendLies
import Derived.WalkLawsBesides
namespace Go.Proofs.YtkaigmgnmdhngaaDoor
open Go.ChangeShapes Go.WideShapes Go.ChangeAt Go.RowKit Go.Joins
set_option linter.unusedVariables false

/-- two rows of bytes put together -/
def zip (A B : List Nat) : List Nat := List.zipWith (· ^^^ ·) A B
theorem zip_len (A B : List Nat) (n : Nat) (hA : A.length = n) (hB : B.length = n) : (zip A B).length = n := by simp [zip, hA, hB]
theorem zip_byte (A B : List Nat) (hA : ∀ b ∈ A, b < 256) (hB : ∀ b ∈ B, b < 256) : ∀ b ∈ zip A B, b < 256 := by
  intro b hb
  unfold zip at hb
  obtain ⟨i, hi, rfl⟩ := List.getElem_of_mem hb
  rw [List.getElem_zipWith]
  exact xor_byte _ _ (hA _ (List.getElem_mem _)) (hB _ (List.getElem_mem _))
theorem zip_snoc (A B : List Nat) (n k : Nat) (hA : A.length = n) (hB : B.length = n) (hk : k < n) : (zip A B).take (k + 1) = (zip A B).take k ++ [A.getD k 0 ^^^ B.getD k 0] := by
  rw [take_succ_get _ _ (by rw [zip_len A B n hA hB]; exact hk)]
  congr 2
  unfold zip
  simp [List.getD, hA, hB, hk]
theorem run_zero_xor (A B Z : List Nat) (n : Nat) (hA : A.length = n) (hB : B.length = n) (hZ : Z = List.replicate n 0) (hAb : ∀ b ∈ A, b < 256) (hBb : ∀ b ∈ B, b < 256) :
    crcOf A ^^^ crcOf B ^^^ crcOf Z = crcOf (zip A B) := by
  have hZb : ∀ b ∈ Z, b < 256 := by subst hZ; intro b hb; have := List.eq_of_mem_replicate hb; omega
  have hZl : Z.length = n := by subst hZ; simp
  have e1 := run_xor A B 4294967295 4294967295 (by omega)
  have e2 := run_xor (zip A B) Z 0 4294967295 (by rw [zip_len A B n hA hB, hZl])
  have e3 : List.zipWith (· ^^^ ·) (zip A B) Z = zip A B := by
    apply List.ext_getElem
    · simp [zip, hA, hB, hZl]
    · intro i h1 h2
      rw [List.getElem_zipWith]
      subst hZ
      simp
  rw [Nat.xor_self] at e1
  rw [e3, Nat.zero_xor] at e2
  have r1 := run_lt A 4294967295 (by decide) hAb
  have r2 := run_lt B 4294967295 (by decide) hBb
  have r3 := run_lt Z 4294967295 (by decide) hZb
  have r4 := run_lt (zip A B) 4294967295 (by decide) (zip_byte A B hAb hBb)
  unfold crcOf
  rw [not_xor _ r1, not_xor _ r2, not_xor _ r3, not_xor _ r4, ← e2]
  show _ = 4294967295 ^^^ (run 0 (zip A B) ^^^ run 4294967295 Z)
  unfold zip
  rw [← e1]
  generalize run 4294967295 A = a
  generalize run 4294967295 B = b
  generalize run 4294967295 Z = z
  generalize (4294967295 : Nat) = o
  refine Nat.eq_of_testBit_eq fun i => ?_
  simp only [Nat.testBit_xor]
  cases o.testBit i <;> cases a.testBit i <;> cases b.testBit i <;> cases z.testBit i <;> rfl
def Least (n x y : Nat) : Prop := n ≤ x ∧ n ≤ y ∧ n ≤ 2000 ∧ (n = x ∨ n = y ∨ n = 2000)
/-- the least of three, known -/
theorem wpList_min3_exact {P : Program} {w : World} {ops : Array Oper} {rest : List Oper} {o : Oper} {a : Act} {Q : Exit → Act → World → Prop} (hgd : o.guard = none) (x y z : Operand) (ts : Array TypeId)
    (ho : o.op = .call { callee := .builtin .min, args := #[x, y, z], argTypes := ts }) (v0 v1 v2 v' : Value) (hx : a.eval x = v0) (hy : a.eval y = v1) (hz : a.eval z = v2)
    (hrun : ∀ ty, (Builtin.min_ ts ty #[v0, v1, v2]).run P w = .ok v' w) (h : wpList P ops Q rest (a.put o.dst v') w) : wpList P ops Q (o :: rest) a w := by
  refine wpList_plain hgd fun K hK => ?_
  unfold Oper.wp
  simp [execOp, ho, resolve, invoke, builtin, hx, hy, hz, hrun, Result.andThen]
  exact hK _ _ h
theorem step_value {P : Program} {ops : Array Oper} {Q : Exit → Act → World → Prop} {i : Nat} {o : Oper} {a : Act} {w w' : World} {K : Act → World → Prop} {v : Value} (hi : ops[i]? = some o) (hw : Region.wanted o (yielded ops a.tmps) = true)
    (hr : (execOp a.eval o).run P w = .ok (.value v) w') (hK : K (a.put o.dst v) w') : wpOp P ops Q i K a w := by
  unfold Go.wpOp
  simp only [hi, hw, if_true, Oper.wp, hr, Oper.upon]
  exact .inl hK
theorem step_enter {P : Program} {ops : Array Oper} {Q : Exit → Act → World → Prop} {i : Nat} {o : Oper} {a : Act} {w : World} {K : Act → World → Prop} {f : FuncId} {args : Array Value} {R : Ending → World → Prop} (hi : ops[i]? = some o) (hw : Region.wanted o (yielded ops a.tmps) = true)
    (hr : (execOp a.eval o).run P w = .ok (.enter f args) w) (hc : Calls P f args w R) (hR : ∀ e w', R e w' → ∃ v, e = .returned v ∧ K (a.put o.dst v) w') : wpOp P ops Q i K a w := by
  unfold Go.wpOp
  simp only [hi, hw, if_true, Oper.wp, hr, Oper.upon]
  refine .inl (hc.mono fun e w' he => ?_)
  obtain ⟨v, rfl, hk⟩ := hR e w' he
  exact hk
theorem guard_ok {ops : Array Oper} {o : Oper} {a : Act} (hg : o.guard = some (1, true)) (hd : (ops[1]?).bind (·.dst) = some 31) (h : a.eval (.tmp 31) = .bool true) : Region.wanted o (yielded ops a.tmps) = true := by
  have h2 : a.tmps[31]? = some (.bool true) := by
    have h3 : a.tmps.getD 31 undef = .bool true := h
    rw [Array.getD_eq_getD_getElem?] at h3
    cases h4 : a.tmps[31]? with
    | none => rw [h4] at h3; cases h3
    | some x => rw [h4] at h3; simpa using h3
  simp [Region.wanted, hg, yielded, hd, h2]
theorem parts_later {w W : World} {g o : Nat} {ps : List Part} (h : Parts w g o ps) (hb : Below w.heap.size w W) : Parts W g o ps := fun i p hp => by
  obtain ⟨h1, h2⟩ := h i p hp
  exact ⟨by rw [hb.cell (World.block_lt_of_cell? w _ h1)]; exact h1, src_later h2 hb⟩
theorem parts_one (w : World) (p : Part) (hS : Src w p.1 p.2.2) : Parts (w.alloc (.cells #[.slice p.1 p.2.2.length p.2.1] 22)) w.heap.size 0 [p] := fun i q hq => by
  match i, hq with
  | 0, hq =>
    simp at hq; subst hq
    exact ⟨by simp [World.cell?, heap_alloc], src_later hS ((Below.refl _ w).alloc (Nat.le_refl _) _)⟩
  | i + 1, hq => simp at hq
/-- what the last region works on -/
structure Job where
  a0 : Option Addr
  b0 : Option Addr
  c0 : Option Addr
  len0 : Nat
  cap0 : Nat
  len1 : Nat
  cap1 : Nat
  capc : Nat
  n : Nat
  A : List Nat
  B : List Nat
  M : List Nat
def Job.Z (J : Job) : List Nat := List.replicate J.n 0
def Job.ok (J : Job) (w : World) : Prop := J.A.length = J.n ∧ J.B.length = J.n ∧ J.M.length = J.n ∧ J.n ≤ 2000 ∧ J.n ≤ J.cap0 ∧ J.n ≤ J.cap1 ∧ (∀ b ∈ J.A, b < 256) ∧ (∀ b ∈ J.B, b < 256) ∧ (∀ b ∈ J.M, b < 256) ∧ Tab w ∧ Src w J.a0 J.A ∧ Src w J.b0 J.B ∧ Src w J.c0 J.M
theorem ok_later {J : Job} {w W : World} (h : J.ok w) (hb : Below w.heap.size w W) : J.ok W := by
  obtain ⟨h1, h2, h3, h4, h5, h6, h7, h8, h9, h10, h11, h12, h13⟩ := h
  exact ⟨h1, h2, h3, h4, h5, h6, h7, h8, h9, tab_later h10 hb, src_later h11 hb, src_later h12 hb, src_later h13 hb⟩
/-- what each operation leaves -/
def Leaves (J : Job) (j : Nat) (v : Value) (w : World) : Prop :=
  match j with
  | 0 => v = .bool true
  | 1 => v = .bool true
  | 2 => v = .slice J.a0 J.len0 J.cap0
  | 3 => v = .int .i64 (J.n : Int)
  | 4 => v = .slice J.a0 J.n J.cap0
  | 5 => ∃ g, v = .slice (some ⟨g, 0, none⟩) 1 1 ∧ Parts w g 0 [(J.a0, J.cap0, J.A)]
  | 6 => v = .int .u32 (crcOf J.A : Int)
  | 7 => v = .slice J.b0 J.len1 J.cap1
  | 8 => v = .int .i64 (J.n : Int)
  | 9 => v = .slice J.b0 J.n J.cap1
  | 10 => ∃ g, v = .slice (some ⟨g, 0, none⟩) 1 1 ∧ Parts w g 0 [(J.b0, J.cap1, J.B)]
  | 11 => v = .int .u32 (crcOf J.B : Int)
  | 12 => v = .int .u32 ((crcOf J.A ^^^ crcOf J.B : Nat) : Int)
  | 13 => v = .int .i64 (J.n : Int)
  | 14 => ∃ g, v = .slice (some ⟨g, 0, none⟩) J.n J.n ∧ Src w (some ⟨g, 0, none⟩) J.Z
  | 15 => ∃ g p, v = .slice (some ⟨g, 0, none⟩) 1 1 ∧ Parts w g 0 [(p, J.n, J.Z)]
  | 16 => v = .int .u32 (crcOf J.Z : Int)
  | 17 => v = .int .u32 ((crcOf J.A ^^^ crcOf J.B ^^^ crcOf J.Z : Nat) : Int)
  | 18 => v = .slice J.c0 J.n J.capc
  | 19 => ∃ g, v = .slice (some ⟨g, 0, none⟩) 1 1 ∧ Parts w g 0 [(J.c0, J.capc, J.M)]
  | 20 => v = .int .u32 (crcOf J.M : Int)
  | 21 => v = .bool (((crcOf J.A ^^^ crcOf J.B ^^^ crcOf J.Z : Nat) : Int) == (crcOf J.M : Int))
  | 22 => v = .bool (((crcOf J.A ^^^ crcOf J.B ^^^ crcOf J.Z : Nat) : Int) == (crcOf J.M : Int))
  | 23 => v = .bool (((crcOf J.A ^^^ crcOf J.B ^^^ crcOf J.Z : Nat) : Int) == (crcOf J.M : Int))
  | _ => True
theorem leaves_later {J : Job} {j : Nat} {v : Value} {w W : World} (h : Leaves J j v w) (hb : Below w.heap.size w W) : Leaves J j v W := by
  unfold Leaves at *
  split at h <;> first
    | exact h
    | (obtain ⟨g, h1, h2⟩ := h; exact ⟨g, h1, parts_later h2 hb⟩)
    | (obtain ⟨g, h1, h2⟩ := h; exact ⟨g, h1, src_later h2 hb⟩)
    | (obtain ⟨g, p, h1, h2⟩ := h; exact ⟨g, p, h1, parts_later h2 hb⟩)
def Stand (J : Job) (w0 : World) (a : Act) (w : World) : Prop := a.defers = [] ∧ a.tmps.size = 53 ∧ a.eval (.tmp 0) = .slice J.a0 J.len0 J.cap0 ∧ a.eval (.tmp 1) = .slice J.b0 J.len1 J.cap1 ∧ a.eval (.tmp 5) = .int .i64 (J.n : Int) ∧ a.eval (.tmp 6) = .slice J.c0 J.n J.capc ∧ J.ok w ∧ Below w0.heap.size w0 w
theorem stand_put {J : Job} {w0 : World} {a : Act} {w w' : World} (h : Stand J w0 a w) (hb : Below w.heap.size w w') (d : Nat) (hd : d ≠ 0 ∧ d ≠ 1 ∧ d ≠ 5 ∧ d ≠ 6) (v : Value) : Stand J w0 (a.put (some d) v) w' := by
  obtain ⟨h1, h2, h3, h4, h5, h6, h7, h8⟩ := h
  have e : ∀ t, d ≠ t → (a.put (some d) v).eval (.tmp t) = a.eval (.tmp t) := fun t ht => Act.eval_put (fun d' hd' => by cases hd'; intro e; cases e; exact ht rfl)
  exact ⟨h1, by simpa [Act.put] using h2, by rw [e 0 hd.1, h3], by rw [e 1 hd.2.1, h4], by rw [e 5 hd.2.2.1, h5], by rw [e 6 hd.2.2.2, h6], ok_later h7 hb, chain2 h8 hb⟩
set_option maxRecDepth 20000 in
set_option maxHeartbeats 4000000 in
theorem adds_mid (a0 b0 : Option Addr) (len0 cap0 len1 cap1 n : Nat) (hn : Least n len0 len1) (hc0 : len0 ≤ cap0) (hc1 : len1 ≤ cap1) (w : World) (hT : Hid (Tab w)) (A B : List Nat) (hA : A.length = n) (hB : B.length = n) (hAb : ∀ b ∈ A, b < 256) (hBb : ∀ b ∈ B, b < 256) (hSA : Src w a0 A) (hSB : Src w b0 B)
    (hmin : (if (2000 : Int) < (if (len1 : Int) < (len0 : Int) then (len1 : Int) else (len0 : Int)) then 2000 else (if (len1 : Int) < (len0 : Int) then (len1 : Int) else (len0 : Int))) = (n : Int)) :
    Calls Tryd.prog 6 #[.slice a0 len0 cap0, .slice b0 len1 cap1] w fun e w' => e = .returned (.bool true) ∧ Below w.heap.size w w' := by
  obtain ⟨i0, hi, hz0, hz1, hz2⟩ := info_parts info8
  go_enter Tryd.func6, Tryd.ntmps6
  go_wp2_with (refine wpList_min3_exact rfl (.tmp 9) (.tmp 11) (.const (.int .i64 2000)) #[3, 3, 3] rfl (.int .i64 (len0 : Int)) (.int .i64 (len1 : Int)) (.int .i64 2000) (.int .i64 (n : Int)) rfl rfl rfl (fun ty => by rw [run_min_int3, hmin]) ?_)
  have HSA : Hid (∀ W, Below w.heap.size w W → Src W a0 A) := Lib.hid fun W hb => src_later hSA hb
  have HSB : Hid (∀ W, Below w.heap.size w W → Src W b0 B) := Lib.hid fun W hb => src_later hSB hb
  have HA := Lib.hid (fun _ : True => hA)
  have HB := Lib.hid (fun _ : True => hB)
  have HAb := Lib.hid hAb
  have HBb := Lib.hid hBb
  have hnl : n ≤ len0 ∧ n ≤ len1 ∧ n ≤ 2000 := ⟨hn.1, hn.2.1, hn.2.2.1⟩
  have hn0 := hnl.1
  have hn1 := hnl.2.1
  have hn2 := hnl.2.2
  clear hmin hn hSA hSB hA hB hAb hBb hnl
  go_loopw [6, 7] (fun c i wr => ∃ (k : Nat) (v : Value), v = c ∧ i = .int .i64 (k : Int) ∧ k ≤ n ∧ Hid (wr.ownsRow w.heap.size 5 1 v k (cells ((zip A B).take k))) ∧ Hid (Below w.heap.size w wr)) (fun _ i _ => n - (intOf i).toNat)
  case atStart => exact ⟨0, _, rfl, rfl, by omega, Lib.hid (World.ownsRow_nil _ _ _ _), Lib.hid (Below.refl _ _)⟩
  case round =>
    obtain ⟨k, v, rfl, rfl, hkn, hown, hbel⟩ := hrel
    by_cases hk : k < n
    · obtain ⟨g1, o1, rfl, h1⟩ := HSA.out _ hbel.out (by rw [HA.out trivial]; omega)
      obtain ⟨g2, o2, rfl, h2⟩ := HSB.out _ hbel.out (by rw [HB.out trivial]; omega)
      obtain ⟨x, hx, hxl⟩ : ∃ x, A.getD k 0 = x ∧ x < 256 := ⟨_, rfl, getD_byte HAb.out k⟩
      obtain ⟨y, hy, hyl⟩ : ∃ y, B.getD k 0 = y ∧ y < 256 := ⟨_, rfl, getD_byte HBb.out k⟩
      have c1 := h1 k (by rw [HA.out trivial]; exact hk)
      have c2 := h2 k (by rw [HB.out trivial]; exact hk)
      rw [hx] at c1
      rw [hy] at c2
      obtain ⟨z, hz⟩ : ∃ z, x ^^^ y = z := ⟨_, rfl⟩
      have f1 : bits .xor .u8 (x : Int) (y : Int) = (z : Int) := by rw [← hz]; exact u8_xor_nat x y hxl hyl
      have HZ : Hid (cells ((zip A B).take k) ++ [.int .u8 (z : Int)] = cells ((zip A B).take (k + 1))) := Lib.hid (by
        rw [zip_snoc A B n k (HA.out trivial) (HB.out trivial) hk, hx, hy, hz]
        simp [cells])
      have HS2 : Hid (∀ W, Below w.heap.size wr W → W.cell? ⟨g1, o1 + k, none⟩ = some (.int .u8 (x : Int)) ∧ W.cell? ⟨g2, o2 + k, none⟩ = some (.int .u8 (y : Int))) := Lib.hid fun W hb => by
        have hbw := hbel.out.trans hb
        obtain ⟨g1', o1', e1, q1⟩ := HSA.out _ hbw (by rw [HA.out trivial]; omega)
        obtain ⟨g2', o2', e2, q2⟩ := HSB.out _ hbw (by rw [HB.out trivial]; omega)
        cases e1
        cases e2
        exact ⟨by rw [q1 k (by rw [HA.out trivial]; exact hk), hx], by rw [q2 k (by rw [HB.out trivial]; exact hk), hy]⟩
      have i1 : (0 : Int) ≤ (k : Int) := by omega
      have i2 : (k : Int) < (len0 : Int) := by omega
      have i3 : (k : Int) < (len1 : Int) := by omega
      have K1 := Lib.hid (show k + 1 ≤ maxLen by unfold maxLen; omega)
      have hsz := hbel.out.size
      clear h1 h2 hx hy hz
      go_wp2_with fail
      go_region_held3 (fun W => W.cell? ⟨g1, o1 + k, none⟩ = some (.int .u8 (x : Int)) ∧ W.cell? ⟨g2, o2 + k, none⟩ = some (.int .u8 (y : Int)))
        (first | exact HS2.out _ hb1.out | exact HS2.out _ (((Below.refl _ wr).alloc hsz _).drew) | exact HS2.out _ ((Below.refl _ wr).drew))
        ((refine step_append_lies _ (by rfl) _ _ _ (by rfl) w.heap.size 5 i0 (.int .u8 0) 1 1 Tryd.underlying22 hi hz0 hz1 hz2 rfl (by omega) _ k (cells ((zip A B).take k)) (by rfl) ((hown.out.alloc _).drew)
              ⟨wr.heap.size, 0, none⟩ 1 1 [.int .u8 (z : Int)] (by rfl) (by rfl) (World.news_of_block (cs := #[.int .u8 (z : Int)]) (t := 5) (fr := (0, 0)) (heap_alloc_new wr _)) (by simp [Value.oneCell'])
              (by omega) K1.out (by omega) (by simp; omega) (wr.heap.size + 1) (by simp) ?_; intro gg cap w1 hown1' hgrow hat hlt; have hown1 := Lib.hid hown1'; have hb1 := Lib.hid (((((Below.refl _ wr).alloc hsz (.cells #[.int .u8 (z : Int)] 5)).drew).grown hgrow (by simp; omega) (fun q hq => (hown.out.lt q hq).1))); clear hown1' hgrow hat hlt))
      go_wp2_with fail
      go_roundw
      case rel => exact ⟨k + 1, _, rfl, by go_num, by omega, Lib.hid (by rw [← HZ.out]; exact hown1.out), Lib.hid (hbel.out.trans hb1.out)⟩
      case measure => simp [intOf]; omega
    · obtain rfl : n = k := by omega
      obtain ⟨c0, capc, rfl, hSC⟩ : ∃ c0 capc, v = .slice c0 n capc ∧ Src wr c0 (zip A B) := by
        rw [List.take_of_length_le (by rw [zip_len A B n (HA.out trivial) (HB.out trivial)]; omega)] at hown
        rcases hown.out.2 with ⟨rfl, rfl⟩ | _
        · exact ⟨none, 0, rfl, fun h => absurd h (by rw [zip_len A B 0 (HA.out trivial) (HB.out trivial)]; omega)⟩
        · rcases Nat.eq_zero_or_pos n with rfl | hp
          · obtain ⟨p, cap, rfl⟩ := owns_nil (by have := hown.out; have e : cells (zip A B) = [] := List.length_eq_zero_iff.1 (by rw [cells_len, zip_len A B 0 (HA.out trivial) (HB.out trivial)]); rwa [e] at this)
            exact ⟨p, cap, rfl, fun h => absurd h (by rw [zip_len A B 0 (HA.out trivial) (HB.out trivial)]; omega)⟩
          · have hl := zip_len A B n (HA.out trivial) (HB.out trivial)
            have := hown.out
            rw [← hl] at this
            obtain ⟨g, cap, rfl, _, _, _, hr⟩ := row_of_owns this (by rw [hl]; exact hp)
            exact ⟨_, _, by rw [hl], row_srcs hr⟩
      obtain ⟨J, hJ⟩ : ∃ J : Job, J = ⟨a0, b0, c0, len0, cap0, len1, cap1, capc, n, A, B, zip A B⟩ := ⟨_, rfl⟩
      have HJ : Hid (True → J = ⟨a0, b0, c0, len0, cap0, len1, cap1, capc, n, A, B, zip A B⟩) := Lib.hid fun _ => hJ
      have hok : Hid (J.ok wr) := Lib.hid (by
        rw [hJ]
        exact ⟨HA.out trivial, HB.out trivial, zip_len A B n (HA.out trivial) (HB.out trivial), hn2, Nat.le_trans hn0 hc0, Nat.le_trans hn1 hc1, HAb.out, HBb.out, zip_byte A B HAb.out HBb.out, tab_later hT.out hbel.out, HSA.out _ hbel.out, HSB.out _ hbel.out, hSC⟩)
      clear hJ hSC hown
      go_wp2_with fail
      refine wp_region_left (by kernel_rfl) 53 (Leaves J) (Stand J w) (by kernel_rfl) (by kernel_rfl) (fun a w h => h.2.1) ?_ ?_ ?_
      · exact ⟨rfl, rfl, by rw [HJ.out trivial]; rfl, by rw [HJ.out trivial]; rfl, by rw [HJ.out trivial]; rfl, by rw [HJ.out trivial]; rfl, ok_later hok.out (Below.refl _ _).drew, hbel.out.drew⟩
      · intro i o ho a w' hS h
        obtain ⟨_, _, e0, e1, e5, e6, hok', _⟩ := id hS
        obtain ⟨hLenA, hLenB, hLenM, hn2, hnc0, hnc1, hByteA, hByteB, hByteM, hTab, hSrcA, hSrcB, hSrcM⟩ := id hok'
        have hLenZ : J.Z.length = J.n := by simp [Job.Z]
        have hByteZ : ∀ b ∈ J.Z, b < 256 := by intro b hb; have := List.eq_of_mem_replicate hb; omega
        clear hok HJ HSA HSB HA HB HAb HBb hT
        have ec : a.eval (.const (.bool false)) = .bool false := rfl
        have ef1 : a.eval (.func 11) = .func (.func 11) #[] #[] := rfl
        have ef2 : a.eval (.func 10) = .func (.func 10) #[] #[] := rfl
        match i, ho with
        | 0, ho =>
          obtain rfl := Option.some.inj (show some _ = some o from ho)
          refine step_enter (f := 10) (args := #[]) ho (by rfl) (by generalize a.eval = ρ at *; go_simp) (sums_any w' (Lib.hid hok'.2.2.2.2.2.2.2.2.2.1)) ?_
          rintro e w2 ⟨rfl, hb2⟩
          exact ⟨_, rfl, _, _, rfl, rfl, rfl, stand_put hS hb2 _ (by decide) _, fun j x hx => leaves_later hx hb2⟩
        | 1, ho =>
          obtain rfl := Option.some.inj (show some _ = some o from ho)
          have e30 : a.eval (.tmp 30) = .bool true := h ⟨0, .data⟩ (by simp) rfl
          refine step_value (v := .bool true) ho (by rfl) (by generalize a.eval = ρ at *; go_simp) ⟨_, _, rfl, rfl, rfl, stand_put hS (Below.refl _ _) _ (by decide) _, fun j x hx => hx⟩
        | 2, ho =>
          obtain rfl := Option.some.inj (show some _ = some o from ho)
          refine step_value (v := .slice J.a0 J.len0 J.cap0) ho (guard_ok rfl rfl (show a.eval (.tmp 31) = .bool true from h ⟨1, .guard⟩ (by simp) rfl)) (by generalize a.eval = ρ at *; go_simp) ⟨_, _, rfl, rfl, rfl, stand_put hS (Below.refl _ _) _ (by decide) _, fun j x hx => hx⟩
        | 3, ho =>
          obtain rfl := Option.some.inj (show some _ = some o from ho)
          refine step_value (v := .int .i64 (J.n : Int)) ho (guard_ok rfl rfl (show a.eval (.tmp 31) = .bool true from h ⟨1, .guard⟩ (by simp) rfl)) (by generalize a.eval = ρ at *; go_simp) ⟨_, _, rfl, rfl, rfl, stand_put hS (Below.refl _ _) _ (by decide) _, fun j x hx => hx⟩
        | 4, ho =>
          obtain rfl := Option.some.inj (show some _ = some o from ho)
          have e32 : a.eval (.tmp 32) = .slice J.a0 J.len0 J.cap0 := h ⟨2, .data⟩ (by simp) rfl
          have e33 : a.eval (.tmp 33) = .int .i64 (J.n : Int) := h ⟨3, .data⟩ (by simp) rfl
          refine step_value (v := .slice J.a0 J.n J.cap0) ho (guard_ok rfl rfl (show a.eval (.tmp 31) = .bool true from h ⟨1, .guard⟩ (by simp) rfl)) (by generalize a.eval = ρ at *; go_simp) ⟨_, _, rfl, rfl, rfl, stand_put hS (Below.refl _ _) _ (by decide) _, fun j x hx => hx⟩
        | 5, ho =>
          obtain rfl := Option.some.inj (show some _ = some o from ho)
          have e34 : a.eval (.tmp 34) = .slice J.a0 J.n J.cap0 := h ⟨4, .data⟩ (by simp) rfl
          have hP := parts_one w' (J.a0, J.cap0, J.A) hSrcA
          rw [show (J.a0, J.cap0, J.A).2.2.length = J.n from hLenA] at hP
          have hb2 := (Below.refl w'.heap.size w').alloc (Nat.le_refl _) (.cells #[.slice J.a0 J.n J.cap0] 22)
          refine step_value (v := .slice (some ⟨w'.heap.size, 0, none⟩) 1 1) (w' := w'.alloc (.cells #[.slice J.a0 J.n J.cap0] 22)) ho (guard_ok rfl rfl (show a.eval (.tmp 31) = .bool true from h ⟨1, .guard⟩ (by simp) rfl)) (by generalize a.eval = ρ at *; go_simp) ⟨_, _, rfl, rfl, ⟨_, rfl, hP⟩, stand_put hS hb2 _ (by decide) _, fun j x hx => leaves_later hx hb2⟩
        | 6, ho =>
          obtain rfl := Option.some.inj (show some _ = some o from ho)
          obtain ⟨g, e35, hP⟩ : ∃ g, a.eval (.tmp 35) = .slice (some ⟨g, 0, none⟩) 1 1 ∧ Parts w' g 0 [(J.a0, J.cap0, J.A)] := h ⟨5, .data⟩ (by simp) rfl
          have hc := sum_any g 0 1 [(J.a0, J.cap0, J.A)] (show 1 ≤ 10 by decide) (fun q hq => by simp at hq; subst hq; exact ⟨by show J.A.length ≤ _; rw [hLenA]; omega, hByteA⟩) w' (Lib.hid hTab) (Lib.hid hP)
          rw [show all [(J.a0, J.cap0, J.A)] = J.A by simp [all]] at hc
          refine step_enter (f := 11) (args := #[.slice (some ⟨g, 0, none⟩) 1 1]) ho (guard_ok rfl rfl (show a.eval (.tmp 31) = .bool true from h ⟨1, .guard⟩ (by simp) rfl)) (by generalize a.eval = ρ at *; go_simp) hc ?_
          rintro e w2 ⟨rfl, rfl⟩
          exact ⟨_, rfl, _, _, rfl, rfl, rfl, stand_put hS (Below.refl _ _) _ (by decide) _, fun j x hx => hx⟩
        | 7, ho =>
          obtain rfl := Option.some.inj (show some _ = some o from ho)
          refine step_value (v := .slice J.b0 J.len1 J.cap1) ho (guard_ok rfl rfl (show a.eval (.tmp 31) = .bool true from h ⟨1, .guard⟩ (by simp) rfl)) (by generalize a.eval = ρ at *; go_simp) ⟨_, _, rfl, rfl, rfl, stand_put hS (Below.refl _ _) _ (by decide) _, fun j x hx => hx⟩
        | 8, ho =>
          obtain rfl := Option.some.inj (show some _ = some o from ho)
          refine step_value (v := .int .i64 (J.n : Int)) ho (guard_ok rfl rfl (show a.eval (.tmp 31) = .bool true from h ⟨1, .guard⟩ (by simp) rfl)) (by generalize a.eval = ρ at *; go_simp) ⟨_, _, rfl, rfl, rfl, stand_put hS (Below.refl _ _) _ (by decide) _, fun j x hx => hx⟩
        | 9, ho =>
          obtain rfl := Option.some.inj (show some _ = some o from ho)
          have e37 : a.eval (.tmp 37) = .slice J.b0 J.len1 J.cap1 := h ⟨7, .data⟩ (by simp) rfl
          have e38 : a.eval (.tmp 38) = .int .i64 (J.n : Int) := h ⟨8, .data⟩ (by simp) rfl
          refine step_value (v := .slice J.b0 J.n J.cap1) ho (guard_ok rfl rfl (show a.eval (.tmp 31) = .bool true from h ⟨1, .guard⟩ (by simp) rfl)) (by generalize a.eval = ρ at *; go_simp) ⟨_, _, rfl, rfl, rfl, stand_put hS (Below.refl _ _) _ (by decide) _, fun j x hx => hx⟩
        | 10, ho =>
          obtain rfl := Option.some.inj (show some _ = some o from ho)
          have e39 : a.eval (.tmp 39) = .slice J.b0 J.n J.cap1 := h ⟨9, .data⟩ (by simp) rfl
          have hP := parts_one w' (J.b0, J.cap1, J.B) hSrcB
          rw [show (J.b0, J.cap1, J.B).2.2.length = J.n from hLenB] at hP
          have hb2 := (Below.refl w'.heap.size w').alloc (Nat.le_refl _) (.cells #[.slice J.b0 J.n J.cap1] 22)
          refine step_value (v := .slice (some ⟨w'.heap.size, 0, none⟩) 1 1) (w' := w'.alloc (.cells #[.slice J.b0 J.n J.cap1] 22)) ho (guard_ok rfl rfl (show a.eval (.tmp 31) = .bool true from h ⟨1, .guard⟩ (by simp) rfl)) (by generalize a.eval = ρ at *; go_simp) ⟨_, _, rfl, rfl, ⟨_, rfl, hP⟩, stand_put hS hb2 _ (by decide) _, fun j x hx => leaves_later hx hb2⟩
        | 11, ho =>
          obtain rfl := Option.some.inj (show some _ = some o from ho)
          obtain ⟨g, e40, hP⟩ : ∃ g, a.eval (.tmp 40) = .slice (some ⟨g, 0, none⟩) 1 1 ∧ Parts w' g 0 [(J.b0, J.cap1, J.B)] := h ⟨10, .data⟩ (by simp) rfl
          have hc := sum_any g 0 1 [(J.b0, J.cap1, J.B)] (show 1 ≤ 10 by decide) (fun q hq => by simp at hq; subst hq; exact ⟨by show J.B.length ≤ _; rw [hLenB]; omega, hByteB⟩) w' (Lib.hid hTab) (Lib.hid hP)
          rw [show all [(J.b0, J.cap1, J.B)] = J.B by simp [all]] at hc
          refine step_enter (f := 11) (args := #[.slice (some ⟨g, 0, none⟩) 1 1]) ho (guard_ok rfl rfl (show a.eval (.tmp 31) = .bool true from h ⟨1, .guard⟩ (by simp) rfl)) (by generalize a.eval = ρ at *; go_simp) hc ?_
          rintro e w2 ⟨rfl, rfl⟩
          exact ⟨_, rfl, _, _, rfl, rfl, rfl, stand_put hS (Below.refl _ _) _ (by decide) _, fun j x hx => hx⟩
        | 12, ho =>
          obtain rfl := Option.some.inj (show some _ = some o from ho)
          have e36 : a.eval (.tmp 36) = .int .u32 (crcOf J.A : Int) := h ⟨6, .data⟩ (by simp) rfl
          have e41 : a.eval (.tmp 41) = .int .u32 (crcOf J.B : Int) := h ⟨11, .data⟩ (by simp) rfl
          have f1 := u32_xor_nat (crcOf J.A) (crcOf J.B) (crcOf_le _) (crcOf_le _)
          refine step_value (v := .int .u32 ((crcOf J.A ^^^ crcOf J.B : Nat) : Int)) ho (guard_ok rfl rfl (show a.eval (.tmp 31) = .bool true from h ⟨1, .guard⟩ (by simp) rfl)) (by generalize a.eval = ρ at *; go_simp) ⟨_, _, rfl, rfl, rfl, stand_put hS (Below.refl _ _) _ (by decide) _, fun j x hx => hx⟩
        | 13, ho =>
          obtain rfl := Option.some.inj (show some _ = some o from ho)
          refine step_value (v := .int .i64 (J.n : Int)) ho (guard_ok rfl rfl (show a.eval (.tmp 31) = .bool true from h ⟨1, .guard⟩ (by simp) rfl)) (by generalize a.eval = ρ at *; go_simp) ⟨_, _, rfl, rfl, rfl, stand_put hS (Below.refl _ _) _ (by decide) _, fun j x hx => hx⟩
        | 14, ho =>
          obtain rfl := Option.some.inj (show some _ = some o from ho)
          have e43 : a.eval (.tmp 43) = .int .i64 (J.n : Int) := h ⟨13, .data⟩ (by simp) rfl
          have hmk := mk_bytes J.n (by omega) w'
          have hb2 := (Below.refl w'.heap.size w').alloc (Nat.le_refl _) (.cells (cells (List.replicate J.n 0)).toArray 5)
          have hz : Src (w'.alloc (.cells (cells (List.replicate J.n 0)).toArray 5)) (some ⟨w'.heap.size, 0, none⟩) J.Z := row_srcs (cap := J.n) ⟨_, heap_alloc_new w' _, by simp [cells], by simp [Job.Z], by simp [cells, Job.Z]⟩
          refine step_value (v := .slice (some ⟨w'.heap.size, 0, none⟩) J.n J.n) (w' := w'.alloc (.cells (cells (List.replicate J.n 0)).toArray 5)) ho (guard_ok rfl rfl (show a.eval (.tmp 31) = .bool true from h ⟨1, .guard⟩ (by simp) rfl)) (by generalize a.eval = ρ at *; go_simp) ⟨_, _, rfl, rfl, ⟨_, rfl, hz⟩, stand_put hS hb2 _ (by decide) _, fun j x hx => leaves_later hx hb2⟩
        | 15, ho =>
          obtain rfl := Option.some.inj (show some _ = some o from ho)
          obtain ⟨g, e44, hz⟩ : ∃ g, a.eval (.tmp 44) = .slice (some ⟨g, 0, none⟩) J.n J.n ∧ Src w' (some ⟨g, 0, none⟩) J.Z := h ⟨14, .data⟩ (by simp) rfl
          have hP := parts_one w' (some ⟨g, 0, none⟩, J.n, J.Z) hz
          rw [show (some (⟨g, 0, none⟩ : Addr), J.n, J.Z).2.2.length = J.n from hLenZ] at hP
          have hb2 := (Below.refl w'.heap.size w').alloc (Nat.le_refl _) (.cells #[.slice (some ⟨g, 0, none⟩) J.n J.n] 22)
          refine step_value (v := .slice (some ⟨w'.heap.size, 0, none⟩) 1 1) (w' := w'.alloc (.cells #[.slice (some ⟨g, 0, none⟩) J.n J.n] 22)) ho (guard_ok rfl rfl (show a.eval (.tmp 31) = .bool true from h ⟨1, .guard⟩ (by simp) rfl)) (by generalize a.eval = ρ at *; go_simp) ⟨_, _, rfl, rfl, ⟨_, _, rfl, hP⟩, stand_put hS hb2 _ (by decide) _, fun j x hx => leaves_later hx hb2⟩
        | 16, ho =>
          obtain rfl := Option.some.inj (show some _ = some o from ho)
          obtain ⟨g, p, e45, hP⟩ : ∃ g p, a.eval (.tmp 45) = .slice (some ⟨g, 0, none⟩) 1 1 ∧ Parts w' g 0 [(p, J.n, J.Z)] := h ⟨15, .data⟩ (by simp) rfl
          have hc := sum_any g 0 1 [(p, J.n, J.Z)] (show 1 ≤ 10 by decide) (fun q hq => by simp at hq; subst hq; exact ⟨by show J.Z.length ≤ _; rw [hLenZ]; omega, hByteZ⟩) w' (Lib.hid hTab) (Lib.hid hP)
          rw [show all [(p, J.n, J.Z)] = J.Z by simp [all]] at hc
          refine step_enter (f := 11) (args := #[.slice (some ⟨g, 0, none⟩) 1 1]) ho (guard_ok rfl rfl (show a.eval (.tmp 31) = .bool true from h ⟨1, .guard⟩ (by simp) rfl)) (by generalize a.eval = ρ at *; go_simp) hc ?_
          rintro e w2 ⟨rfl, rfl⟩
          exact ⟨_, rfl, _, _, rfl, rfl, rfl, stand_put hS (Below.refl _ _) _ (by decide) _, fun j x hx => hx⟩
        | 17, ho =>
          obtain rfl := Option.some.inj (show some _ = some o from ho)
          have e42 : a.eval (.tmp 42) = .int .u32 ((crcOf J.A ^^^ crcOf J.B : Nat) : Int) := h ⟨12, .data⟩ (by simp) rfl
          have e46 : a.eval (.tmp 46) = .int .u32 (crcOf J.Z : Int) := h ⟨16, .data⟩ (by simp) rfl
          have f1 := u32_xor_nat (crcOf J.A ^^^ crcOf J.B) (crcOf J.Z) (Nat.xor_lt_two_pow (n := 32) (crcOf_le _) (crcOf_le _)) (crcOf_le _)
          refine step_value (v := .int .u32 ((crcOf J.A ^^^ crcOf J.B ^^^ crcOf J.Z : Nat) : Int)) ho (guard_ok rfl rfl (show a.eval (.tmp 31) = .bool true from h ⟨1, .guard⟩ (by simp) rfl)) (by generalize a.eval = ρ at *; go_simp) ⟨_, _, rfl, rfl, rfl, stand_put hS (Below.refl _ _) _ (by decide) _, fun j x hx => hx⟩
        | 18, ho =>
          obtain rfl := Option.some.inj (show some _ = some o from ho)
          refine step_value (v := .slice J.c0 J.n J.capc) ho (guard_ok rfl rfl (show a.eval (.tmp 31) = .bool true from h ⟨1, .guard⟩ (by simp) rfl)) (by generalize a.eval = ρ at *; go_simp) ⟨_, _, rfl, rfl, rfl, stand_put hS (Below.refl _ _) _ (by decide) _, fun j x hx => hx⟩
        | 19, ho =>
          obtain rfl := Option.some.inj (show some _ = some o from ho)
          have e48 : a.eval (.tmp 48) = .slice J.c0 J.n J.capc := h ⟨18, .data⟩ (by simp) rfl
          have hP := parts_one w' (J.c0, J.capc, J.M) hSrcM
          rw [show (J.c0, J.capc, J.M).2.2.length = J.n from hLenM] at hP
          have hb2 := (Below.refl w'.heap.size w').alloc (Nat.le_refl _) (.cells #[.slice J.c0 J.n J.capc] 22)
          refine step_value (v := .slice (some ⟨w'.heap.size, 0, none⟩) 1 1) (w' := w'.alloc (.cells #[.slice J.c0 J.n J.capc] 22)) ho (guard_ok rfl rfl (show a.eval (.tmp 31) = .bool true from h ⟨1, .guard⟩ (by simp) rfl)) (by generalize a.eval = ρ at *; go_simp) ⟨_, _, rfl, rfl, ⟨_, rfl, hP⟩, stand_put hS hb2 _ (by decide) _, fun j x hx => leaves_later hx hb2⟩
        | 20, ho =>
          obtain rfl := Option.some.inj (show some _ = some o from ho)
          obtain ⟨g, e49, hP⟩ : ∃ g, a.eval (.tmp 49) = .slice (some ⟨g, 0, none⟩) 1 1 ∧ Parts w' g 0 [(J.c0, J.capc, J.M)] := h ⟨19, .data⟩ (by simp) rfl
          have hc := sum_any g 0 1 [(J.c0, J.capc, J.M)] (show 1 ≤ 10 by decide) (fun q hq => by simp at hq; subst hq; exact ⟨by show J.M.length ≤ _; rw [hLenM]; omega, hByteM⟩) w' (Lib.hid hTab) (Lib.hid hP)
          rw [show all [(J.c0, J.capc, J.M)] = J.M by simp [all]] at hc
          refine step_enter (f := 11) (args := #[.slice (some ⟨g, 0, none⟩) 1 1]) ho (guard_ok rfl rfl (show a.eval (.tmp 31) = .bool true from h ⟨1, .guard⟩ (by simp) rfl)) (by generalize a.eval = ρ at *; go_simp) hc ?_
          rintro e w2 ⟨rfl, rfl⟩
          exact ⟨_, rfl, _, _, rfl, rfl, rfl, stand_put hS (Below.refl _ _) _ (by decide) _, fun j x hx => hx⟩
        | 21, ho =>
          obtain rfl := Option.some.inj (show some _ = some o from ho)
          have e47 : a.eval (.tmp 47) = .int .u32 ((crcOf J.A ^^^ crcOf J.B ^^^ crcOf J.Z : Nat) : Int) := h ⟨17, .data⟩ (by simp) rfl
          have e50 : a.eval (.tmp 50) = .int .u32 (crcOf J.M : Int) := h ⟨20, .data⟩ (by simp) rfl
          refine step_value (v := .bool (((crcOf J.A ^^^ crcOf J.B ^^^ crcOf J.Z : Nat) : Int) == (crcOf J.M : Int))) ho (guard_ok rfl rfl (show a.eval (.tmp 31) = .bool true from h ⟨1, .guard⟩ (by simp) rfl)) (by generalize a.eval = ρ at *; go_simp) ⟨_, _, rfl, rfl, rfl, stand_put hS (Below.refl _ _) _ (by decide) _, fun j x hx => hx⟩
        | 22, ho =>
          obtain rfl := Option.some.inj (show some _ = some o from ho)
          have e31 : a.eval (.tmp 31) = .bool true := h ⟨1, .data⟩ (by simp) rfl
          have e51 : a.eval (.tmp 51) = .bool (((crcOf J.A ^^^ crcOf J.B ^^^ crcOf J.Z : Nat) : Int) == (crcOf J.M : Int)) := h ⟨21, .data⟩ (by simp) rfl
          refine step_value (v := .bool (((crcOf J.A ^^^ crcOf J.B ^^^ crcOf J.Z : Nat) : Int) == (crcOf J.M : Int))) ho (by rfl) (by generalize a.eval = ρ at *; go_simp) ⟨_, _, rfl, rfl, rfl, stand_put hS (Below.refl _ _) _ (by decide) _, fun j x hx => hx⟩
        | 23, ho =>
          obtain rfl := Option.some.inj (show some _ = some o from ho)
          have e52 : a.eval (.tmp 52) = .bool (((crcOf J.A ^^^ crcOf J.B ^^^ crcOf J.Z : Nat) : Int) == (crcOf J.M : Int)) := h ⟨22, .data⟩ (by simp) rfl
          refine step_value (v := .bool (((crcOf J.A ^^^ crcOf J.B ^^^ crcOf J.Z : Nat) : Int) == (crcOf J.M : Int))) ho (by rfl) (by generalize a.eval = ρ at *; go_simp) ⟨_, _, rfl, rfl, rfl, stand_put hS (Below.refl _ _) _ (by decide) _, fun j x hx => hx⟩
        | n + 24, ho => exact absurd ho (by simp)
      · intro a w' hS hV
        have e4 : a.eval (.tmp 4) = .bool (((crcOf J.A ^^^ crcOf J.B ^^^ crcOf J.Z : Nat) : Int) == (crcOf J.M : Int)) := hV 23 (by decide)
        have hE : (((crcOf J.A ^^^ crcOf J.B ^^^ crcOf J.Z : Nat) : Int) == (crcOf J.M : Int)) = true := by
          rw [HJ.out trivial]
          have := run_zero_xor A B (List.replicate n 0) n (HA.out trivial) (HB.out trivial) rfl HAb.out HBb.out
          simp only [Job.Z, this, beq_self_eq_true]
        rw [hE] at e4
        have h8 := Lib.hid hS.2.2.2.2.2.2.2
        have hd := hS.1
        clear hS hV
        obtain ⟨tm, df⟩ := a
        simp only at hd
        subst hd
        go_wp2_with fail
        go_ret
        exact ⟨congrArg Ending.returned e4, h8.out⟩
theorem least_of (x y : Nat) : ∃ n, Least n x y ∧ (if (2000 : Int) < (if (y : Int) < (x : Int) then (y : Int) else (x : Int)) then 2000 else (if (y : Int) < (x : Int) then (y : Int) else (x : Int))) = (n : Int) := by
  unfold Least
  by_cases h : y < x
  · by_cases h2 : 2000 < y
    · refine ⟨2000, by omega, ?_⟩
      rw [if_pos (show (y : Int) < (x : Int) by omega), if_pos (by omega)]; rfl
    · refine ⟨y, by omega, ?_⟩
      rw [if_pos (show (y : Int) < (x : Int) by omega), if_neg (by omega)]
  · by_cases h2 : 2000 < x
    · refine ⟨2000, by omega, ?_⟩
      rw [if_neg (show ¬ (y : Int) < (x : Int) by omega), if_pos (by omega)]; rfl
    · refine ⟨x, by omega, ?_⟩
      rw [if_neg (show ¬ (y : Int) < (x : Int) by omega), if_neg (by omega)]
theorem crcAdds_walk (a0 : Option Addr) (len0 cap0 : Nat) (z0 : List Int) (a1 : Option Addr) (len1 cap1 : Nat) (z1 : List Int) (w : World) (hl : laidMetH Tryd.prog [("scriptor/crc.halves", Rows.laid_scriptor_crc_halves)] w) (w0 : Came w a0 len0 cap0 z0) (w1 : Came w a1 len1 cap1 z1) :
    Calls Tryd.prog 6 #[.slice a0 len0 cap0, .slice a1 len1 cap1] w fun e w' => e = .returned (.bool true) ∧ Below w.heap.size w w' := by
  have hT := Lib.hid (tab_of_laid hl)
  obtain ⟨n, hn, hmin⟩ := least_of len0 len1
  obtain ⟨A, hA, hAb, hSA⟩ := came_src w0 n hn.1
  obtain ⟨B, hB, hBb, hSB⟩ := came_src w1 n hn.2.1
  exact adds_mid a0 a1 len0 cap0 len1 cap1 n hn (came_le w0).1 (came_le w1).1 w hT A B hA hB hAb hBb hSA hSB hmin
end Go.Proofs.YtkaigmgnmdhngaaDoor
