/- A disk that may be armed: what its calls do, as acts on its state; sectors that last, one behind the other. -/
import Derived.Test.YtfhgdcljhncjmaaDoorWalT
namespace Go.Proofs.YtfhgdcljhncjmaaDoor
open Go.ChangeShapes Go.WideShapes Go.ChangeAt Go.RowKit
set_option linter.unusedVariables false
set_option maxRecDepth 20000

/-- what lasts, what waits, how long the power lasts -/
structure Dst where
  ls : List ByteArray
  W : List (Nat × ByteArray)
  ar : Bool
  le : Nat
  off : Bool
/-- what Read tells -/
def Dst.now (s : Dst) : List ByteArray := Fk.setT s.ls s.W
def Da (B : Nat) (w : World) (g L : Nat) (s : Dst) (k : Nat) : Prop := ∃ gn gl cn cl vw st, Fk.DkAt B w g gn gl L cn cl vw (Fk.strs s.now) (Fk.strs s.ls) s.W st s.ar (s.le : Int) s.off ∧ (∀ x ∈ s.W, x.1 < L) ∧ s.W.length ≤ k ∧ 0 ≤ st ∧ st ≤ (k : Int) ∧ s.le ≤ 1000
/-- a write, or a barrier -/
def act1 (s : Dst) (a : Option (Nat × ByteArray)) : Dst × Bool :=
  if s.off = true ∨ (s.ar = true ∧ s.le = 0) then ({ s with off := true }, false)
  else match a with
    | some x => ({ s with W := s.W ++ [x], le := if s.ar = true then s.le - 1 else s.le }, true)
    | none => ({ s with ls := s.now, W := [], le := if s.ar = true then s.le - 1 else s.le }, true)
def acts (s : Dst) : List (Option (Nat × ByteArray)) → Dst × Bool
  | [] => (s, true)
  | a :: t => if (act1 s a).2 = true then acts (act1 s a).1 t else ((act1 s a).1, false)
theorem acts_cons_ok {s s1 : Dst} {a : Option (Nat × ByteArray)} (h : act1 s a = (s1, true)) (t : List (Option (Nat × ByteArray))) : acts s (a :: t) = acts s1 t := by
  rw [acts, h]; simp
theorem acts_cons_no {s s1 : Dst} {a : Option (Nat × ByteArray)} (h : act1 s a = (s1, false)) (t : List (Option (Nat × ByteArray))) : acts s (a :: t) = (s1, false) := by
  rw [acts, h]; simp
theorem acts_append_ok : ∀ {s s1 : Dst} (l t : List (Option (Nat × ByteArray))), acts s l = (s1, true) → acts s (l ++ t) = acts s1 t
  | s, s1, [], t, h => by
    have h1 : s = s1 := congrArg Prod.fst h
    rw [← h1]; rfl
  | s, s1, a :: l, t, h => by
    obtain ⟨s2, ok, h2⟩ : ∃ s2 ok, act1 s a = (s2, ok) := ⟨_, _, rfl⟩
    cases ok with
    | true => rw [acts_cons_ok h2] at h; rw [List.cons_append, acts_cons_ok h2]; exact acts_append_ok l t h
    | false => rw [acts_cons_no h2] at h; have := congrArg Prod.snd h; cases this
theorem acts_append_no : ∀ {s s1 : Dst} (l t : List (Option (Nat × ByteArray))), acts s l = (s1, false) → acts s (l ++ t) = (s1, false)
  | s, s1, [], t, h => by have := congrArg Prod.snd h; cases this
  | s, s1, a :: l, t, h => by
    obtain ⟨s2, ok, h2⟩ : ∃ s2 ok, act1 s a = (s2, ok) := ⟨_, _, rfl⟩
    cases ok with
    | true => rw [acts_cons_ok h2] at h; rw [List.cons_append, acts_cons_ok h2]; exact acts_append_no l t h
    | false => rw [acts_cons_no h2] at h; rw [List.cons_append, acts_cons_no h2]; exact h
theorem da_below {B : Nat} {w w' : World} {g L k : Nat} {s : Dst} (h : Da B w g L s k) (hb : Below w.heap.size w w') : Da B w' g L s k := by
  obtain ⟨gn, gl, cn, cl, vw, st, h1, h2⟩ := h
  exact ⟨gn, gl, cn, cl, vw, st, h1.below hb, h2⟩
theorem da_mono {B : Nat} {w : World} {g L k k' : Nat} {s : Dst} (h : Da B w g L s k) (hk : k ≤ k') : Da B w g L s k' := by
  obtain ⟨gn, gl, cn, cl, vw, st, h1, h2, h3, h4, h5, h6⟩ := h
  exact ⟨gn, gl, cn, cl, vw, st, h1, h2, by omega, h4, by omega, h6⟩
theorem da_lt {B : Nat} {w : World} {g L k : Nat} {s : Dst} (h : Da B w g L s k) : g < w.heap.size ∧ B ≤ g ∧ B ≤ w.heap.size := by
  obtain ⟨gn, gl, cn, cl, vw, st, h1, _⟩ := h
  exact ⟨Fk.head_lt h1.head, h1.ge.1, Fk.dk_size h1⟩
theorem da_type {B : Nat} {w : World} {g L k : Nat} {s : Dst} (h : Da B w g L s k) : ∃ cs fr, w.heap[g]? = some (.cells cs 92 fr) := by
  obtain ⟨gn, gl, cn, cl, vw, st, h1, _⟩ := h
  exact (dk_types h1).1
theorem da_len {B : Nat} {w : World} {g L k : Nat} {s : Dst} (h : Da B w g L s k) : s.ls.length = L ∧ s.now.length = L := by
  obtain ⟨gn, gl, cn, cl, vw, st, h1, _⟩ := h
  have a := h1.now.1
  have b := h1.rows.1
  unfold Fk.strs at a b
  exact ⟨by simpa using b, by simpa using a⟩
/-- nobody armed it -/
def Quiet (s : Dst) : Prop := s.ar = false ∧ s.le = 0 ∧ s.off = false
theorem da_quiet {B : Nat} {w : World} {g L k : Nat} {s : Dst} (h : Da B w g L s k) (hq : Quiet s) : Dq B w g L s.now k := by
  obtain ⟨gn, gl, cn, cl, vw, st, h1, h2, h3, h4, h5, h6⟩ := h
  obtain ⟨q1, q2, q3⟩ := hq
  rw [q1, q2, q3] at h1
  exact ⟨gn, gl, cn, cl, vw, s.ls, s.W, st, h1, rfl, h2, h3, h4, h5⟩
theorem dq_any {B : Nat} {w : World} {g L k : Nat} {ns : List ByteArray} (h : Dq B w g L ns k) : ∃ s, Da B w g L s k ∧ Quiet s ∧ s.now = ns := by
  obtain ⟨gn, gl, cn, cl, vw, ls, W, st, h1, h2, h3, h4, h5, h6⟩ := h
  refine ⟨⟨ls, W, false, 0, false⟩, ⟨gn, gl, cn, cl, vw, st, ?_, h3, h4, h5, h6, Nat.zero_le _⟩, ⟨rfl, rfl, rfl⟩, h2⟩
  have e : (⟨ls, W, false, 0, false⟩ : Dst).now = ns := h2
  rw [e]
  exact h1
theorem act1_quiet {s : Dst} (hq : Quiet s) (a : Option (Nat × ByteArray)) : ∃ s', act1 s a = (s', true) ∧ Quiet s' ∧ s'.now = (match a with | some x => s.now.set x.1 x.2 | none => s.now) := by
  obtain ⟨q1, q2, q3⟩ := hq
  have hc : ¬ (s.off = true ∨ (s.ar = true ∧ s.le = 0)) := by rw [q1, q3]; simp
  unfold act1
  rw [if_neg hc]
  cases a with
  | some x => exact ⟨_, rfl, ⟨q1, by simp [q1, q2], q3⟩, setT_snoc _ _ _ _⟩
  | none => exact ⟨_, rfl, ⟨q1, by simp [q1, q2], q3⟩, rfl⟩
theorem acts_quiet : ∀ (l : List (Option (Nat × ByteArray))) {s : Dst}, Quiet s → ∃ s', acts s l = (s', true) ∧ Quiet s' ∧ s'.now = l.foldl (fun ns a => match a with | some x => ns.set x.1 x.2 | none => ns) s.now
  | [], s, hq => ⟨s, rfl, hq, rfl⟩
  | a :: t, s, hq => by
    obtain ⟨s1, h1, q1, n1⟩ := act1_quiet hq a
    obtain ⟨s2, h2, q2, n2⟩ := acts_quiet t q1
    refine ⟨s2, by rw [acts_cons_ok h1]; exact h2, q2, ?_⟩
    rw [n2, n1]; rfl
section
variable {B : Nat} {w : World} {g L k : Nat} {s : Dst}
theorem da_down (h : Da B w g L s k) (hd : s.off = true ∨ (s.ar = true ∧ s.le = 0)) {w' : World} {gn gl cn cl : Nat} {vw : Value} {st : Int} (hD : Fk.DkAt B w g gn gl L cn cl vw (Fk.strs s.now) (Fk.strs s.ls) s.W st s.ar (s.le : Int) s.off) (hin : ∀ x ∈ s.W, x.1 < L) (hl : s.W.length ≤ k) (h0 : 0 ≤ st) (h1 : st ≤ (k : Int)) (h2 : s.le ≤ 1000) (hh : Fk.Head w' g (.slice (some ⟨gn, 0, none⟩) L cn) (.slice (some ⟨gl, 0, none⟩) L cl) vw st s.ar (s.le : Int) true) (ho : Fk.Only (· = g) w w') : Da B w' g L { s with off := true } (k + 1) ∧ Below B w w' ∧ KeepT g w w' := by
  obtain ⟨a, b⟩ := Fk.dk_head hD hh ho
  refine ⟨⟨gn, gl, cn, cl, vw, st, a, hin, by show s.W.length ≤ k + 1; omega, h0, by omega, h2⟩, b, KeepT.of_only ho ?_ ?_⟩
  · rintro q rfl
    obtain ⟨cs, fr, x⟩ := da_type h
    exact ⟨cs, _, fr, x, .inl rfl⟩
  · intro q cs fr hq hf
    obtain ⟨f1, f2, f3⟩ := foe_dk hD hf
    refine ⟨?_, foe_mk a f1 f2 f3⟩
    rintro rfl
    obtain ⟨cs', fr', x⟩ := da_type h
    rw [x] at hq
    exact absurd hq (by simp)
theorem da_write (h : Da B w g L s k) (hk : k ≤ 1000000) (i : Int) (n : Nat) (hni : (n : Int) = i) (hn : n < L) (gb : Nat) (M : List Nat) (hs : SecRow w gb M) (hl : M.length ≤ 512) (s' : Dst) (ok : Bool) (hr : act1 s (some (n, sec M)) = (s', ok)) :
    Calls Tryd.prog 27 #[.pointer (some ⟨g, 0, none⟩), .int .i64 i, .slice (some ⟨gb, 0, none⟩) 512 512] w fun e w' => ((ok = true ∧ e = .returned (.int .i64 0)) ∨ (ok = false ∧ e = .returned (.int .i64 8))) ∧ Da B w' g L s' (k + 1) ∧ Below B w w' ∧ KeepT g w w' := by
  have hda := h
  obtain ⟨cs, fr, hty⟩ := da_type h
  obtain ⟨gn, gl, cn, cl, vw, st, h1, h3, h4, h5, h6, h7⟩ := h
  subst hni
  by_cases hd : s.off = true ∨ (s.ar = true ∧ s.le = 0)
  · have e : act1 s (some (n, sec M)) = ({ s with off := true }, false) := if_pos hd
    rw [hr] at e
    obtain rfl : s' = _ := congrArg Prod.fst e
    obtain rfl : ok = false := congrArg Prod.snd e
    refine (Fk.write_down g _ _ vw st s.ar (s.le : Int) s.off w (n : Int) (some ⟨gb, 0, none⟩) 512 gn L cn rfl (by omega) (by omega) (Lib.hid h1.head) (Lib.hid (hd.elim .inr fun x => .inl ⟨x.1, by rw [x.2]; rfl⟩))).mono ?_
    rintro e w' ⟨rfl, a1, a2⟩
    exact ⟨.inr ⟨rfl, rfl⟩, da_down hda hd h1 h3 h4 h5 h6 h7 a1 a2⟩
  · have e : act1 s (some (n, sec M)) = ({ s with W := s.W ++ [(n, sec M)], le := if s.ar = true then s.le - 1 else s.le }, true) := if_neg hd
    rw [hr] at e
    obtain rfl : s' = _ := congrArg Prod.fst e
    obtain rfl : ok = true := congrArg Prod.snd e
    have hoff : s.off = false := by cases h : s.off with | false => rfl | true => exact absurd (.inl h) hd
    have hle : ¬ (s.ar = true ∧ (s.le : Int) = 0) := fun x => hd (.inr ⟨x.1, by omega⟩)
    have hne : gb ≠ g := fun e => by
      unfold SecRow at hs
      rw [e, hty] at hs
      cases hs
    rw [hoff] at h1
    refine (dk_writeS (((if s.ar = true then s.le - 1 else s.le : Nat)) : Int) (by
      split
      · rename_i ha
        have : s.le ≠ 0 := fun e => hle ⟨ha, by omega⟩
        omega
      · rfl) (n : Int) n rfl h1 hn (some ⟨gb, 0, none⟩) 512 (sec M) (fun V hV => sec_conv' (L := M) (by
      unfold SecRow at hs ⊢
      rw [hV.block gb (Array.getElem?_eq_some_iff.1 hs).1 hne]; exact hs) hl) (by omega) (by omega) (by omega) h5 (by omega) hle).mono ?_
    rintro e w' ⟨rfl, gw, cw, a1, a2, a3⟩
    rw [strs_set, ← hoff] at a1
    refine ⟨.inl ⟨rfl, rfl⟩, ⟨gn, gl, cn, cl, .slice (some ⟨gw, 0, none⟩) (s.W.length + 1) cw, st + 1, ?_, fun x hx => ?_, by show (s.W ++ [(n, sec M)]).length ≤ k + 1; rw [List.length_append]; simp; omega, by omega, by omega, by show (if s.ar = true then s.le - 1 else s.le) ≤ 1000; split <;> omega⟩, a2, a3⟩
    · have en : Dst.now { s with W := s.W ++ [(n, sec M)], le := if s.ar = true then s.le - 1 else s.le } = s.now.set n (sec M) := setT_snoc _ _ _ _
      rw [en]
      exact a1
    · rcases List.mem_append.1 hx with hx | hx
      · exact h3 x hx
      · rw [List.mem_singleton] at hx; rw [hx]; exact hn
theorem da_barrier (h : Da B w g L s k) (hk : k ≤ 1000000) (s' : Dst) (ok : Bool) (hr : act1 s none = (s', ok)) :
    Calls Tryd.prog 28 #[.pointer (some ⟨g, 0, none⟩)] w fun e w' => ((ok = true ∧ e = .returned (.int .i64 0)) ∨ (ok = false ∧ e = .returned (.int .i64 8))) ∧ Da B w' g L s' (k + 1) ∧ Below B w w' ∧ KeepT g w w' := by
  have hda := h
  obtain ⟨gn, gl, cn, cl, vw, st, h1, h3, h4, h5, h6, h7⟩ := h
  by_cases hd : s.off = true ∨ (s.ar = true ∧ s.le = 0)
  · have e : act1 s none = ({ s with off := true }, false) := if_pos hd
    rw [hr] at e
    obtain rfl : s' = _ := congrArg Prod.fst e
    obtain rfl : ok = false := congrArg Prod.snd e
    refine (Fk.barrier_down g _ _ vw st s.ar (s.le : Int) s.off w (Lib.hid h1.head) (Lib.hid (hd.elim .inr fun x => .inl ⟨x.1, by rw [x.2]; rfl⟩))).mono ?_
    rintro e w' ⟨rfl, a1, a2⟩
    exact ⟨.inr ⟨rfl, rfl⟩, da_down hda hd h1 h3 h4 h5 h6 h7 a1 a2⟩
  · have e : act1 s none = ({ s with ls := s.now, W := [], le := if s.ar = true then s.le - 1 else s.le }, true) := if_neg hd
    rw [hr] at e
    obtain rfl : s' = _ := congrArg Prod.fst e
    obtain rfl : ok = true := congrArg Prod.snd e
    have hoff : s.off = false := by cases h : s.off with | false => rfl | true => exact absurd (.inl h) hd
    have hle : ¬ (s.ar = true ∧ (s.le : Int) = 0) := fun x => hd (.inr ⟨x.1, by omega⟩)
    rw [hoff] at h1
    refine (dk_barrierS (((if s.ar = true then s.le - 1 else s.le : Nat)) : Int) (by
      split
      · rename_i ha
        have : s.le ≠ 0 := fun e => hle ⟨ha, by omega⟩
        omega
      · rfl) h1 h3 (by omega) (by omega) (by omega) h5 (by omega) hle).mono ?_
    rintro e w' ⟨rfl, a1, a2, a3⟩
    rw [Fk.setAll_strs, ← hoff] at a1
    exact ⟨.inl ⟨rfl, rfl⟩, ⟨gn, gl, cn, cl, _, st + 1, a1, by simp, by simp, by omega, by omega, by show (if s.ar = true then s.le - 1 else s.le) ≤ 1000; split <;> omega⟩, a2, a3⟩
theorem wlA (h : Da B w g L s k) (hk : k ≤ 100000) (i : Int) (n : Nat) (hni : (n : Int) = i) (hn : n < L) (gb : Nat) (M : List Nat) (hs : SecRow w gb M) (hl : M.length ≤ 512) (s' : Dst) (ok : Bool) (hr : acts s [some (n, sec M), none] = (s', ok)) :
    Calls Tryd.prog 35 #[.pointer (some ⟨g, 0, none⟩), .int .i64 i, .slice (some ⟨gb, 0, none⟩) 512 512] w fun e w' => ((ok = true ∧ e = .returned (.int .i64 0)) ∨ (ok = false ∧ e = .returned (.int .i64 8))) ∧ Da B w' g L s' (k + 2) ∧ Below B w w' ∧ KeepT g w w' := by
  obtain ⟨s1, ok1, r1⟩ : ∃ s1 ok1, act1 s (some (n, sec M)) = (s1, ok1) := ⟨_, _, rfl⟩
  have H1 := Lib.hid (da_write h (by omega) i n hni hn gb M hs hl s1 ok1 r1)
  cases ok1 with
  | false =>
    have e : acts s [some (n, sec M), none] = (s1, false) := acts_cons_no r1 _
    rw [hr] at e
    obtain rfl : s' = s1 := congrArg Prod.fst e
    obtain rfl : ok = false := congrArg Prod.snd e
    clear h hs hl hn hk hni hr r1 e
    go_enter Tryd.func35, Tryd.ntmps35
    go_wp2_with fail
    refine H1.out.mono ?_
    rintro e w1 ⟨a0, a1, a2, a3⟩
    rcases a0 with ⟨h9, _⟩ | ⟨_, rfl⟩
    · cases h9
    have A1 := Lib.hid a1
    have A2 := Lib.hid a2
    have A3 := Lib.hid a3
    clear a1 a2 a3
    go_wp2_with fail
    go_ret
    exact ⟨.inr ⟨by trivial, rfl⟩, da_mono A1.out (by omega), A2.out, A3.out⟩
  | true =>
    have e : acts s [some (n, sec M), none] = acts s1 [none] := acts_cons_ok r1 _
    rw [hr] at e
    have hr2 : act1 s1 none = (s', ok) := by
      obtain ⟨s2, ok2, r2⟩ : ∃ s2 ok2, act1 s1 none = (s2, ok2) := ⟨_, _, rfl⟩
      cases ok2 with
      | true => rw [acts_cons_ok r2] at e; rw [r2, e]; rfl
      | false => rw [acts_cons_no r2] at e; rw [r2, e]
    have H2 := Lib.hid (fun W (hW : Da B W g L s1 (k + 1)) => da_barrier hW (by omega) s' ok hr2)
    clear h hs hl hn hk hni hr r1 e hr2
    go_enter Tryd.func35, Tryd.ntmps35
    go_wp2_with fail
    refine H1.out.mono ?_
    rintro e w1 ⟨a0, a1, a2, a3⟩
    rcases a0 with ⟨_, rfl⟩ | ⟨h9, _⟩
    case inr => cases h9
    have HB := Lib.hid (H2.out w1 a1)
    have A2 := Lib.hid a2
    have A3 := Lib.hid a3
    clear a1 a2 a3
    go_wp2_with fail
    refine HB.out.mono ?_
    rintro e w2 ⟨b0, b1, b2, b3⟩
    have C1 := Lib.hid b1
    have C2 := Lib.hid (A2.out.trans b2)
    have C3 := Lib.hid (A3.out.trans b3)
    clear b1 b2 b3
    rcases b0 with ⟨hok, rfl⟩ | ⟨hok, rfl⟩
    · go_wp2_with fail
      go_ret
      exact ⟨.inl ⟨hok, rfl⟩, C1.out, C2.out, C3.out⟩
    · go_wp2_with fail
      go_ret
      exact ⟨.inr ⟨hok, rfl⟩, C1.out, C2.out, C3.out⟩
theorem wbA (h : Da B w g L s k) (hk : k ≤ 90000) (i : Int) (n : Nat) (hni : (n : Int) = i) (hn : n < L) (gb : Nat) (M : List Nat) (hs : SecRow w gb M) (hl : M.length ≤ 512) (s' : Dst) (ok : Bool) (hr : acts s [none, some (n, sec M), none] = (s', ok)) :
    Calls Tryd.prog 48 #[.pointer (some ⟨g, 0, none⟩), .int .i64 i, .slice (some ⟨gb, 0, none⟩) 512 512] w fun e w' => ((ok = true ∧ e = .returned (.int .i64 0)) ∨ (ok = false ∧ e = .returned (.int .i64 8))) ∧ Da B w' g L s' (k + 3) ∧ Below B w w' ∧ KeepT g w w' := by
  obtain ⟨s1, ok1, r1⟩ : ∃ s1 ok1, act1 s none = (s1, ok1) := ⟨_, _, rfl⟩
  have H1 := Lib.hid (da_barrier h (by omega) s1 ok1 r1)
  have HS := Lib.hid hs
  cases ok1 with
  | false =>
    have e : acts s [none, some (n, sec M), none] = (s1, false) := acts_cons_no r1 _
    rw [hr] at e
    obtain rfl : s' = s1 := congrArg Prod.fst e
    obtain rfl : ok = false := congrArg Prod.snd e
    clear h hs hl hn hk hni hr r1 e
    go_enter Tryd.func48, Tryd.ntmps48
    go_wp2_with fail
    refine H1.out.mono ?_
    rintro e w1 ⟨a0, a1, a2, a3⟩
    rcases a0 with ⟨h9, _⟩ | ⟨_, rfl⟩
    · cases h9
    have A1 := Lib.hid a1
    have A2 := Lib.hid a2
    have A3 := Lib.hid a3
    clear a1 a2 a3
    go_wp2_with fail
    go_ret
    exact ⟨.inr ⟨by trivial, rfl⟩, da_mono A1.out (by omega), A2.out, A3.out⟩
  | true =>
    have e : acts s [none, some (n, sec M), none] = acts s1 [some (n, sec M), none] := acts_cons_ok r1 _
    rw [hr] at e
    have hr2 : acts s1 [some (n, sec M), none] = (s', ok) := e.symm
    have H2 := Lib.hid (fun W (hW : Da B W g L s1 (k + 1)) (hrw : SecRow W gb M) => wlA hW (by omega) i n hni hn gb M hrw hl s' ok hr2)
    clear h hs hl hn hk hni hr r1 e hr2
    go_enter Tryd.func48, Tryd.ntmps48
    go_wp2_with fail
    refine H1.out.mono ?_
    rintro e w1 ⟨a0, a1, a2, a3⟩
    rcases a0 with ⟨_, rfl⟩ | ⟨h9, _⟩
    case inr => cases h9
    have HB := Lib.hid (H2.out w1 a1 (keep_row HS.out a3))
    have A2 := Lib.hid a2
    have A3 := Lib.hid a3
    clear a1 a2 a3
    go_wp2_with fail
    refine HB.out.mono ?_
    rintro e w2 ⟨b0, b1, b2, b3⟩
    have C1 := Lib.hid b1
    have C2 := Lib.hid (A2.out.trans b2)
    have C3 := Lib.hid (A3.out.trans b3)
    clear b1 b2 b3
    rcases b0 with ⟨hok, rfl⟩ | ⟨hok, rfl⟩
    · go_wp2_with fail
      go_ret
      exact ⟨.inl ⟨hok, rfl⟩, C1.out, C2.out, C3.out⟩
    · go_wp2_with fail
      go_ret
      exact ⟨.inr ⟨hok, rfl⟩, C1.out, C2.out, C3.out⟩
end
end Go.Proofs.YtfhgdcljhncjmaaDoor
