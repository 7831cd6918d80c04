/- What the walk of WireReads is told: both readers' calls, whatever their error; what stays beside one. -/
import Derived.Test.YtflgodphphbbjaaRefIn
import Derived.Test.YtflgodphphbbjaaBackW
namespace Go.Proofs.Ytflgodphphbbjaa
open Go.ChangeShapes Go.WideShapes Go.ChangeAt Go.RowKit Go.Lib
set_option linter.unusedVariables false

theorem bytesOf_sv (L : List Nat) (h : ∀ b ∈ L, b < 256) : bytesOf (sv L) = L := by
  unfold bytesOf sv strOfNums
  simp only [List.map_map]
  rw [List.map_congr_left (g := id)]
  · simp
  · intro b hb
    have := h b hb
    simp
    omega
/-- a number read of what is left: it, what is left then, the error -/
def stN (least most : Int) (s : ByteArray) (err : Int) : Int × ByteArray × Int := if err ≠ 0 then (0, s, err) else ((rdB least most (bytesOf s)).1, s.extract (rdB least most (bytesOf s)).2.1 s.size, (rdB least most (bytesOf s)).2.2)
/-- a text -/
def stS (most : Int) (s : ByteArray) (err : Int) : ByteArray × ByteArray × Int := if err ≠ 0 then ({ data := #[] }, s, err) else (sv (rdS most (bytesOf s)).1, sv (rdS most (bytesOf s)).2.1, (rdS most (bytesOf s)).2.2)
theorem stN_size (least most : Int) (s : ByteArray) (err : Int) : (stN least most s err).2.1.size ≤ s.size := by
  unfold stN
  split
  · exact Nat.le_refl _
  · show (s.extract _ _).size ≤ _
    rw [ByteArray.size_extract]; omega
theorem stS_size (most : Int) (s : ByteArray) (err : Int) : (stS most s err).2.1.size ≤ s.size := by
  unfold stS
  split
  · exact Nat.le_refl _
  · show (sv _).size ≤ _
    rw [sv_size]
    obtain ⟨k, hk⟩ := rdS_rest most (bytesOf s)
    rw [hk, List.length_drop, bytesOf_len]; omega
section
variable (g : Nat) (s : ByteArray) (err : Int) (w : World)
theorem inNum_tot (hs : s.size ≤ 3000) (least most : Int) (hb : Hid (Box w g (bytesOf s) err)) :
    Calls Try.prog 15 #[.pointer (some ⟨g, 0, none⟩), .int .i64 least, .int .i64 most] w fun e w' => e = .returned (.int .i64 (stN least most s err).1) ∧ Box w' g (bytesOf (stN least most s err).2.1) (stN least most s err).2.2 ∧ Only (· = g) w w' := by
  unfold stN
  by_cases he : err = 0
  · subst he
    refine (inNum_only g (bytesOf s) least most (by rw [bytesOf_len]; omega) (bytes_of s) w hb).mono fun e w' ⟨h1, h2, h3⟩ => ⟨by simpa using h1, ?_, h3⟩
    simp only [ne_eq, not_true_eq_false, if_false]
    rw [bytesOf_drop]
    exact h2
  · simp only [ne_eq, he, not_false_eq_true, if_true]
    refine (inNum_err g (bytesOf s) err least most he w hb).mono fun e w' ⟨h1, h2⟩ => ⟨h1, h2 ▸ hb.out, h2 ▸ Only.refl _ _⟩
theorem refInNum_tot (hs : s.size ≤ 3000) (least most : Int) (hb : Hid (RBox w g s err)) :
    Calls Try.prog 21 #[.pointer (some ⟨g, 0, none⟩), .int .i64 least, .int .i64 most] w fun e w' => e = .returned (.int .i64 (stN least most s err).1) ∧ RBox w' g (stN least most s err).2.1 (stN least most s err).2.2 ∧ Only (· = g) w w' := by
  unfold stN
  by_cases he : err = 0
  · subst he
    refine (refInNum_any g s least most (by omega) w hb).mono fun e w' ⟨h1, h2, h3⟩ => ⟨by simpa using h1, ?_, h3⟩
    simp only [ne_eq, not_true_eq_false, if_false]
    exact h2
  · simp only [ne_eq, he, not_false_eq_true, if_true]
    refine (refInNum_err g s err least most he w hb).mono fun e w' ⟨h1, h2⟩ => ⟨h1, h2 ▸ hb.out, h2 ▸ Only.refl _ _⟩
theorem inStr_tot (hs : s.size ≤ 3000) (most : Int) (hb : Hid (Box w g (bytesOf s) err)) :
    Calls Try.prog 19 #[.pointer (some ⟨g, 0, none⟩), .int .i64 most] w fun e w' => e = .returned (.string (stS most s err).1) ∧ Box w' g (bytesOf (stS most s err).2.1) (stS most s err).2.2 ∧ Only (· = g) w w' := by
  unfold stS
  by_cases he : err = 0
  · subst he
    refine (inStr_only g (bytesOf s) most (by rw [bytesOf_len]; omega) (bytes_of s) w hb).mono fun e w' ⟨h1, h2, h3⟩ => ⟨by simpa using h1, ?_, h3⟩
    simp only [ne_eq, not_true_eq_false, if_false]
    obtain ⟨k, hk⟩ := rdS_rest most (bytesOf s)
    rw [bytesOf_sv _ (by rw [hk]; exact drop_bytes (bytes_of s) k)]
    exact h2
  · simp only [ne_eq, he, not_false_eq_true, if_true]
    refine (inStr_err g (bytesOf s) err most he w hb).mono fun e w' ⟨h1, h2⟩ => ⟨h1, h2 ▸ hb.out, h2 ▸ Only.refl _ _⟩
theorem refInStr_tot (hs : s.size ≤ 3000) (most : Int) (hb : Hid (RBox w g s err)) :
    Calls Try.prog 22 #[.pointer (some ⟨g, 0, none⟩), .int .i64 most] w fun e w' => e = .returned (.string (stS most s err).1) ∧ RBox w' g (stS most s err).2.1 (stS most s err).2.2 ∧ Only (· = g) w w' := by
  unfold stS
  by_cases he : err = 0
  · subst he
    refine (refInStr_any g s most (by omega) w hb).mono fun e w' ⟨h1, ⟨s', h2, _, h3⟩, h4⟩ => ⟨by simpa using h1, ?_, h4⟩
    simp only [ne_eq, not_true_eq_false, if_false]
    rw [← h2, sv_bytesOf]
    exact h3
  · simp only [ne_eq, he, not_false_eq_true, if_true]
    refine (refInStr_err g s err most he w hb).mono fun e w' ⟨h1, h2⟩ => ⟨h1, h2 ▸ hb.out, h2 ▸ Only.refl _ _⟩
end
/-- what stays of one reader while the other is called -/
theorem rbox_keep {w w' : World} {g gi : Nat} {s : ByteArray} {e : Int} (h : RBox w g s e) (ho : Only (· = gi) w w') (hne : g ≠ gi) : RBox w' g s e := by
  unfold RBox at *
  rw [ho.block g (Array.getElem?_eq_some_iff.1 h).1 hne]
  exact h
theorem box_lt {w : World} {g : Nat} {L : List Nat} {e : Int} (h : Box w g L e) : g < w.heap.size := by
  obtain ⟨hh, o, cap, hg, _⟩ := h
  exact (Array.getElem?_eq_some_iff.1 hg).1
theorem box_keep {w w' : World} {g gm : Nat} {L : List Nat} {e : Int} {s : ByteArray} {er : Int} (h : Box w g L e) (hr : RBox w gm s er) (ho : Only (· = gm) w w') (hne : g ≠ gm) : Box w' g L e := by
  obtain ⟨hh, o, cap, hg, h1, h2, h3⟩ := h
  refine ⟨hh, o, cap, by rw [ho.block g (Array.getElem?_eq_some_iff.1 hg).1 hne]; exact hg, h1, h2, fun i hi => ?_⟩
  have hc := h3 i hi
  have hne2 : hh ≠ gm := by
    intro eq
    subst eq
    unfold RBox at hr
    simp only [World.cell?, hr] at hc
    rcases Nat.lt_or_ge (o + i) 2 with hlt | hge
    · rcases (by omega : o + i = 0 ∨ o + i = 1) with e0 | e0 <;> rw [e0] at hc <;> simp at hc
    · simp [hge] at hc
  have hlt := World.block_lt_of_cell? w _ hc
  rw [← hc]
  simp only [World.cell?]
  rw [ho.block hh hlt hne2]
/-- a reader whose bytes lie from block B on -/
def BoxB (B : Nat) (w : World) (g : Nat) (L : List Nat) (err : Int) : Prop := ∃ h o cap, w.heap[g]? = some (.cells #[.slice (some ⟨h, o, none⟩) L.length cap, .int .i64 err] 52 (0, 0)) ∧ L.length ≤ cap ∧ h ≠ g ∧ At w h o L ∧ B ≤ h
theorem boxB_box {B : Nat} {w : World} {g : Nat} {L : List Nat} {e : Int} (h : BoxB B w g L e) : Box w g L e := by
  obtain ⟨hh, o, cap, a, b, c, d, _⟩ := h
  exact ⟨hh, o, cap, a, b, c, d⟩
theorem boxB_only {B : Nat} {w w' : World} {g ga : Nat} {L : List Nat} {e : Int} (h : BoxB B w g L e) (ho : Only (· = ga) w w') (hga : ga < B) (hg : g ≠ ga) : BoxB B w' g L e := by
  obtain ⟨hh, o, cap, a, b, c, d, f⟩ := h
  refine ⟨hh, o, cap, by rw [ho.block g (Array.getElem?_eq_some_iff.1 a).1 hg]; exact a, b, c, fun i hi => ?_, f⟩
  have hc := d i hi
  rw [← hc]
  simp only [World.cell?]
  rw [ho.block hh (World.block_lt_of_cell? w _ hc) (by omega)]
theorem boxB_later {B : Nat} {w w' : World} {g : Nat} {L : List Nat} {e : Int} (h : BoxB B w g L e) (hb : Below w.heap.size w w') : BoxB B w' g L e := by
  obtain ⟨hh, o, cap, a, b, c, d, f⟩ := h
  exact ⟨hh, o, cap, by rw [hb.block g (Array.getElem?_eq_some_iff.1 a).1]; exact a, b, c, at_later d hb, f⟩
set_option maxRecDepth 20000 in
theorem open_own (sp : Option Addr) (cap n : Nat) (L : List Nat) (hL : L.length = n) (hn : n ≤ 1000000) (w : World) (hs : Hid (Src w sp L)) :
    Calls Try.prog 20 #[.slice sp n cap] w fun e w' => ∃ g, e = .returned (.pointer (some ⟨g, 0, none⟩)) ∧ w.heap.size ≤ g ∧ BoxB w.heap.size w' g L 0 ∧ Below w.heap.size w w' := by
  subst hL
  obtain ⟨Z, hZ, hmk⟩ := mk_bytes L.length hn w
  have HZ := Lib.hid (fun _ : True => hZ)
  clear hZ
  go_enter Try.func20, Try.ntmps20
  go_wp2_with (refine wpList_copy_splice rfl (.tmp 7) (.tmp 8) 23 23 rfl 5 Try.underlying23 (by kernel_rfl) _ _ _ _ _ _ rfl rfl w.heap.size 0 Z 5 Array.getElem?_push_size (cells L) (by rw [cells_len]; simp) (fun hp => ⟨rfl, src_pos hs.out hp⟩) (by rw [cells_len, HZ.out trivial]; omega) (cells_one L) w.heap.size w ((Below.refl _ _).alloc (Nat.le_refl _) _) (Nat.le_refl _) ?_; intro w2 HG2 hB2)
  have hlt : w.heap.size < w2.heap.size := by
    rcases Nat.lt_or_ge w.heap.size w2.heap.size with h | h
    · exact h
    · have := HG2.out; rw [Array.getElem?_eq_none h] at this; cases this
  have hrow := HG2.out
  rw [splice_all Z (cells L) (by rw [cells_len, HZ.out trivial])] at hrow
  clear HG2
  go_ret
  refine ⟨_, rfl, hB2.size, ⟨w.heap.size, 0, L.length, Array.getElem?_push_size, Nat.le_refl _, Nat.ne_of_lt hlt, fun i hi => ?_, Nat.le_refl _⟩, hB2.alloc hB2.size _⟩
  have hc := at_of_row hrow i hi
  exact (World.cell?_alloc_old w2 _ _ (Nat.ne_of_lt (World.block_lt_of_cell? w2 _ hc))).trans hc
theorem src_later {w W : World} {sp : Option Addr} {L : List Nat} (h : Src w sp L) (hb : Below w.heap.size w W) : Src W sp L := fun hp => by
  obtain ⟨ad, e, hc⟩ := h hp
  exact ⟨ad, e, fun i hi => by rw [hb.cell (World.block_lt_of_cell? w _ (hc i hi))]; exact hc i hi⟩
/-- bytes that came in, as a text, in every later world -/
theorem src_conv {w : World} {sp : Option Addr} {L : List Nat} {n cap : Nat} (hL : L.length = n) (h : Src w sp L) (hz : n = 0 → sp = none → cap = 0) : ∀ W, Below w.heap.size w W → (convert 23 9 (.slice sp n cap)).run Try.prog W = .ok (.string (sv L)) W := by
  intro W hb
  rcases Nat.eq_zero_or_pos n with h0 | hp
  · subst h0
    obtain rfl : L = [] := List.length_eq_zero_iff.1 hL
    rw [run_convert_bytes_string W _ _ 5 _ 0 cap Try.underlying23 Try.underlying5 Try.underlying9]
    cases sp <;> simp [Conv.bytesToString, loadCells]
    all_goals rfl
  · obtain ⟨g, o, rfl, hat⟩ := src_at h (by omega)
    have := at_reads (cap := cap) hat n (by omega) W hb
    rwa [List.take_of_length_le (by omega)] at this
theorem boxB_mono {B B' : Nat} {w : World} {g : Nat} {L : List Nat} {e : Int} (h : BoxB B w g L e) (hB : B' ≤ B) : BoxB B' w g L e := by
  obtain ⟨hh, o, cap, a, b, c, d, f⟩ := h
  exact ⟨hh, o, cap, a, b, c, d, Nat.le_trans hB f⟩
theorem rbox_later {w w' : World} {g : Nat} {s : ByteArray} {e : Int} (h : RBox w g s e) (hb : Below w.heap.size w w') : RBox w' g s e := by
  unfold RBox at *
  rw [hb.block g (Array.getElem?_eq_some_iff.1 h).1]
  exact h
theorem boxes_ne {B : Nat} {w : World} {g gm : Nat} {L : List Nat} {e : Int} {s : ByteArray} {er : Int} (h : BoxB B w g L e) (hr : RBox w gm s er) : g ≠ gm := by
  obtain ⟨hh, o, cap, a, _⟩ := h
  intro eq
  subst eq
  unfold RBox at hr
  rw [hr] at a
  exact absurd a (by simp)
/-- a builtin's call, its run known -/
theorem wpList_call_exact {P : Program} {w : World} {ops : Array Oper} {rest : List Oper} {o : Oper} {a : Act} {Q : Exit → Act → World → Prop} (hgd : o.guard = none) (s x : Operand) (t : TypeId)
    (ho : o.op = .call { callee := .builtin .append, args := #[s, x], argTypes := #[t, t] }) (v0 v1 v' : Value) (w' : World) (hs : a.eval s = v0) (hx : a.eval x = v1)
    (hrun : (Builtin.append_ #[t, t] o.type #[v0, v1]).run P w = .ok v' w') (h : wpList P ops Q rest (a.put o.dst v') w') : wpList P ops Q (o :: rest) a w := by
  refine wpList_plain hgd fun K hK => ?_
  unfold Oper.wp
  simp [execOp, ho, resolve, invoke, builtin, hs, hx, hrun, Result.andThen]
  exact hK _ _ h
/-- bytes that came in, put behind none -/
theorem wpList_append_in {w : World} {ops : Array Oper} {rest : List Oper} {o : Oper} {a : Act} {Q : Exit → Act → World → Prop} (hgd : o.guard = none) (s x : Operand)
    (ho : o.op = .call { callee := .builtin .append, args := #[s, x], argTypes := #[23, 23] }) (base : Nat) (v : Value) (hs : a.eval s = v) (hown : w.ownsRow base 5 1 v 0 [])
    (a0 : Option Addr) (m cap0 : Nat) (hx : a.eval x = .slice a0 m cap0) (L : List Nat) (hL : L.length = m) (hm : m ≤ 3000) (hS : Src w a0 L) (hA : (a0 = none ∧ cap0 = 0 ∧ m = 0) ∨ ∃ x, a0 = some x) (hbase : base ≤ w.heap.size)
    (h : ∀ v' w', Own base v' L w' → Below base w w' → wpList Try.prog ops Q rest (a.put o.dst v') w') : wpList Try.prog ops Q (o :: rest) a w := by
  obtain ⟨i0, hi, hz0, hz1, hz2⟩ := info_parts info8
  rcases hA with ⟨rfl, rfl, rfl⟩ | ⟨ad, rfl⟩
  · obtain rfl : L = [] := List.length_eq_zero_iff.1 hL
    exact wpList_call_exact hgd s x 23 ho v _ v w hs hx (run_append_owned_none w base 23 _ 5 i0 1 Try.underlying23 hi v 0 [] hown) (h v w hown (Below.refl _ _))
  · refine wpList_append_own w hgd s x 23 ho base 5 i0 (.int .u8 0) 1 1 Try.underlying23 hi hz0 hz1 hz2 rfl (by decide) v 0 [] hs hown ad m cap0 (cells L) hx (by rw [cells_len, hL, Nat.mul_one]) (fun j u hu => ?_) (cells_one L) (by unfold maxLen; omega) (by omega) hbase ?_
    · have hjl : j < L.length := by
        have := (List.getElem?_eq_some_iff.1 hu).1
        rwa [cells_len] at this
      obtain ⟨ad', e, hc⟩ := hS (by omega)
      cases e
      rw [hc j hjl]
      simp [cells, hjl] at hu
      rw [← hu]; simp [List.getD, hjl]
    · intro v' w' ho' hg _
      refine h v' w' ?_ ((Below.refl base w).grown hg hbase (fun k hk => own_ge hown hk))
      unfold Own
      rw [hL]
      simpa using ho'
/-- the law's rows of calls -/
def TakesAt (w : World) (a : Option Addr) (len : Nat) (X A B : Nat → Int) : Prop := ∀ i, i < len → ∃ g o, a = some ⟨g, o, none⟩ ∧ w.cell? ⟨g, o + i * 3, none⟩ = some (.int .i64 (X i)) ∧ w.cell? ⟨g, o + i * 3 + 1, none⟩ = some (.int .i64 (A i)) ∧ w.cell? ⟨g, o + i * 3 + 2, none⟩ = some (.int .i64 (B i))
theorem takes_later {w W : World} {a : Option Addr} {len : Nat} {X A B : Nat → Int} (h : TakesAt w a len X A B) (hb : Below w.heap.size w W) : TakesAt W a len X A B := fun i hi => by
  obtain ⟨g, o, e, h1, h2, h3⟩ := h i hi
  exact ⟨g, o, e, by rw [hb.cell (World.block_lt_of_cell? w _ h1)]; exact h1, by rw [hb.cell (World.block_lt_of_cell? w _ h2)]; exact h2, by rw [hb.cell (World.block_lt_of_cell? w _ h3)]; exact h3⟩
structure LInv (w : World) (B : Nat) (wr : World) (sa : Option Addr) (n capa gi gm : Nat) (s : ByteArray) : Prop where
  row : n = 0 ∨ ∃ ga xs, sa = some ⟨ga, 0, none⟩ ∧ ga < B ∧ wr.ownsRow w.heap.size 5 1 (.slice sa n capa) n xs
  box : BoxB B wr gi (bytesOf s) 0
  rbox : RBox wr gm s 0
  below : Below w.heap.size w wr
structure MInv (w wr : World) (gi gm : Nat) (s : ByteArray) (err : Int) : Prop where
  box : Box wr gi (bytesOf s) err
  rbox : RBox wr gm s err
  size : s.size ≤ 3000
  below : Below w.heap.size w wr
theorem rem4 (x : Int) : ∃ q : Nat, q < 4 ∧ wrap64 ((IntKind.u64.wrap x).tmod 4) = (q : Int) := by
  have h0 : 0 ≤ IntKind.u64.wrap x := by rw [IntKind.wrap_u64]; omega
  rw [Int.tmod_eq_emod_of_nonneg h0]
  generalize IntKind.u64.wrap x = y at *
  refine ⟨(y % 4).toNat, by omega, ?_⟩
  unfold wrap64
  omega
theorem own_kept2 {B e z n : Nat} {v : Value} {xs : List Value} {w W : World} (h : w.ownsRow B e z v n xs) (hb : Below w.heap.size w W) : W.ownsRow B e z v n xs := by
  refine ⟨h.1, ?_⟩
  rcases h.2 with h2 | ⟨g, cap, cur, h1, h2, h3, h4⟩
  · exact .inl h2
  · exact .inr ⟨g, cap, cur, h1, h2, (hb.block g (Array.getElem?_eq_some_iff.1 h3).1).trans h3, h4⟩
theorem rem18 (x : Int) : ∃ q : Nat, q < 18 ∧ wrap64 ((IntKind.u64.wrap x).tmod 18) = (q : Int) := by
  have h0 : 0 ≤ IntKind.u64.wrap x := by rw [IntKind.wrap_u64]; omega
  rw [Int.tmod_eq_emod_of_nonneg h0]
  generalize IntKind.u64.wrap x = y at *
  refine ⟨(y % 18).toNat, by omega, ?_⟩
  unfold wrap64
  omega
/-- a row's call in a block of its own -/
def Tk (W : World) (g : Nat) (x a b : Int) : Prop := W.heap[g]? = some (.cells #[.int .i64 x, .int .i64 a, .int .i64 b] 42 (0, 0))
theorem tk1 {W : World} {g : Nat} {x a b : Int} (h : Tk W g x a b) : W.cell? ⟨g, 1, none⟩ = some (.int .i64 a) := by unfold Tk at h; simp [World.cell?, h]
theorem tk2 {W : World} {g : Nat} {x a b : Int} (h : Tk W g x a b) : W.cell? ⟨g, 2, none⟩ = some (.int .i64 b) := by unfold Tk at h; simp [World.cell?, h]
theorem tk_keep {W W2 : World} {g gi : Nat} {x a b : Int} (h : Tk W g x a b) (ho : Only (· = gi) W W2) (hne : g ≠ gi) : Tk W2 g x a b := by
  unfold Tk at *
  rw [ho.block g (Array.getElem?_eq_some_iff.1 h).1 hne]
  exact h
theorem tk_later {W W2 : World} {g : Nat} {x a b : Int} (h : Tk W g x a b) (hb : Below W.heap.size W W2) : Tk W2 g x a b := by
  unfold Tk at *
  rw [hb.block g (Array.getElem?_eq_some_iff.1 h).1]
  exact h
theorem minv_later {w wr W : World} {gi gm : Nat} {s : ByteArray} {err : Int} (h : MInv w wr gi gm s err) (hb : Below wr.heap.size wr W) : MInv w W gi gm s err :=
  ⟨box_later h.box hb, rbox_later h.rbox hb, h.size, h.below.trans (hb.mono h.below.size)⟩
theorem only_below2 {B : Nat} {w0 w w' : World} {g : Nat} (h : Below B w0 w) (ho : Only (· = g) w w') (hg : B ≤ g) (hB : B ≤ w0.heap.size) : Below B w0 w' := h.trans (ho.below (fun k e => e ▸ hg) (Nat.le_trans hB h.size))
theorem left_t (g : Nat) (t : ByteArray) (err : Int) (w : World) (hb : Hid (Box w g (bytesOf t) err)) :
    Calls Try.prog 18 #[.pointer (some ⟨g, 0, none⟩)] w fun e w' => e = .returned (.int .i64 (t.size : Int)) ∧ w = w' := by
  have h := left_any g (bytesOf t) err w hb
  rwa [bytesOf_len] at h
end Go.Proofs.Ytflgodphphbbjaa
