/- A disk that nobody armed: what Read tells is one list of texts; blocks of other kinds stay. -/
import Derived.Test.YtfhgdcljhncjmaaDoorWalS
namespace Go.Proofs.YtfhgdcljhncjmaaDoor
open Go.ChangeShapes Go.WideShapes Go.ChangeAt Go.RowKit
set_option linter.unusedVariables false
set_option maxRecDepth 20000

def DiskT (t : TypeId) : Prop := t = 92 ∨ t = 9 ∨ t = 95
/-- the disk object at g owns no block q -/
def Foe (g q : Nat) (w : World) : Prop := ∃ vn vl vw st ar le off, Fk.Head w g vn vl vw st ar le off ∧ vn.ownBlock ≠ some q ∧ vl.ownBlock ≠ some q ∧ vw.ownBlock ≠ some q
/-- blocks of other kinds stay; rows of texts that the disk at g doesn't own stay too -/
def KeepT (g : Nat) (w w' : World) : Prop := (∀ (q : Nat) (o : Obj), w.heap[q]? = some o → (∀ (cs : Array Value) (t : TypeId) (fr : Nat × Nat), o = Obj.cells cs t fr → ¬ DiskT t) → w'.heap[q]? = some o) ∧
  ∀ (q : Nat) (cs : Array Value) (fr : Nat × Nat), w.heap[q]? = some (Obj.cells cs 9 fr) → Foe g q w → w'.heap[q]? = some (Obj.cells cs 9 fr) ∧ Foe g q w'
theorem KeepT.cells {g : Nat} {w w' : World} (h : KeepT g w w') {q : Nat} {cs : Array Value} {t : TypeId} {fr : Nat × Nat} (hq : w.heap[q]? = some (Obj.cells cs t fr)) (ht : ¬ DiskT t) : w'.heap[q]? = some (Obj.cells cs t fr) := h.1 q _ hq fun cs' t' fr' e => by cases e; exact ht
theorem KeepT.refl {g : Nat} (w : World) : KeepT g w w := ⟨fun _ _ h _ => h, fun _ _ _ h k => ⟨h, k⟩⟩
theorem KeepT.trans {g : Nat} {a b c : World} (h : KeepT g a b) (k : KeepT g b c) : KeepT g a c := ⟨fun q o hq ht => k.1 q o (h.1 q o hq ht) ht, fun q cs fr hq hf => k.2 q cs fr (h.2 q cs fr hq hf).1 (h.2 q cs fr hq hf).2⟩
theorem Foe.below {g q : Nat} {w w' : World} (hf : Foe g q w) (h : Below w.heap.size w w') : Foe g q w' := by
  obtain ⟨vn, vl, vw, st, ar, le, off, hh, h2⟩ := hf
  refine ⟨vn, vl, vw, st, ar, le, off, ?_, h2⟩
  unfold Fk.Head at hh ⊢
  rw [h.block g (Array.getElem?_eq_some_iff.1 hh).1]; exact hh
theorem KeepT.of_below {g : Nat} {w w' : World} (h : Below w.heap.size w w') : KeepT g w w' := ⟨fun q o hq _ => by
  rw [h.block q (Array.getElem?_eq_some_iff.1 hq).1]; exact hq, fun q cs fr hq hf => ⟨by rw [h.block q (Array.getElem?_eq_some_iff.1 hq).1]; exact hq, hf.below h⟩⟩
theorem KeepT.of_only {g : Nat} {S : Nat → Prop} {w w' : World} (h : Fk.Only S w w') (hs : ∀ q, S q → ∃ cs t fr, w.heap[q]? = some (.cells cs t fr) ∧ DiskT t) (h2 : ∀ (q : Nat) (cs : Array Value) (fr : Nat × Nat), w.heap[q]? = some (Obj.cells cs 9 fr) → Foe g q w → ¬ S q ∧ Foe g q w') : KeepT g w w' := ⟨fun q o hq ht => by
  rw [h.block q (Array.getElem?_eq_some_iff.1 hq).1 fun hS => ?_]
  · exact hq
  · obtain ⟨cs', t', fr', h1, h2⟩ := hs q hS
    rw [h1] at hq
    cases hq
    exact ht _ _ _ rfl h2, fun q cs fr hq hf => by
  obtain ⟨n1, n2⟩ := h2 q cs fr hq hf
  exact ⟨by rw [h.block q (Array.getElem?_eq_some_iff.1 hq).1 n1]; exact hq, n2⟩⟩
theorem foe_dk {B : Nat} {w : World} {g gn gl L cn cl : Nat} {vw : Value} {ns ls : List Value} {W : List (Nat × ByteArray)} {st : Int} {ar : Bool} {le : Int} {off : Bool} (h : Fk.DkAt B w g gn gl L cn cl vw ns ls W st ar le off) {q : Nat} (hf : Foe g q w) : q ≠ gn ∧ q ≠ gl ∧ vw.ownBlock ≠ some q := by
  obtain ⟨vn', vl', vw', st', ar', le', off', hh, n1, n2, n3⟩ := hf
  have h1 := h.head
  unfold Fk.Head at h1 hh
  rw [h1] at hh
  have e := Option.some.inj hh
  simp only [Obj.cells.injEq, Array.mk.injEq, List.cons.injEq] at e
  obtain ⟨⟨rfl, rfl, rfl, _⟩, _⟩ := e
  exact ⟨fun e => n1 (by rw [e]; rfl), fun e => n2 (by rw [e]; rfl), n3⟩
theorem foe_mk {B : Nat} {w : World} {g gn gl L cn cl : Nat} {vw : Value} {ns ls : List Value} {W : List (Nat × ByteArray)} {st : Int} {ar : Bool} {le : Int} {off : Bool} (h : Fk.DkAt B w g gn gl L cn cl vw ns ls W st ar le off) {q : Nat} (h1 : q ≠ gn) (h2 : q ≠ gl) (h3 : vw.ownBlock ≠ some q) : Foe g q w :=
  ⟨_, _, _, _, _, _, _, h.head, fun e => h1 (Option.some.inj e).symm, fun e => h2 (Option.some.inj e).symm, h3⟩
theorem own_blk {w : World} {b : Nat} {e : TypeId} {z : Nat} {v : Value} {n : Nat} {xs : List Value} {q : Nat} (h : w.ownsRow b e z v n xs) (hq : v.ownBlock = some q) : ∃ cur, w.heap[q]? = some (.cells cur e (0, 0)) := by
  rcases h.2 with ⟨h0, _⟩ | ⟨g', cap, cur, hv, _, hg, _⟩
  · rw [h0] at hq; cases hq
  · rw [hv] at hq; cases hq; exact ⟨cur, hg⟩
theorem notT8 : ¬ DiskT 5 := by unfold DiskT; decide
theorem keep_row {w w' : World} {g : Nat} {L : List Nat} (h : SecRow w g L) {gd : Nat} (hk : KeepT gd w w') : SecRow w' g L := hk.cells h notT8

/-- what a sector's text is -/
def sec (L : List Nat) : ByteArray := Fw.sv (padL L)
theorem sec_size (L : List Nat) (h : L.length ≤ 512) : (sec L).size = 512 := by unfold sec; rw [Fw.sv_size, padL_len L h]
theorem sec_conv' {w : World} {g : Nat} {L : List Nat} (h : SecRow w g L) (hl : L.length ≤ 512) : (convert 34 9 (.slice (some ⟨g, 0, none⟩) 512 512)).run Tryd.prog w = .ok (.string (sec L)) w := by
  have := run_convert_bytes_arg (P := Tryd.prog) w 34 5 Tryd.underlying34 Tryd.underlying5 g 0 512 512 ((padL L).map fun (b : Nat) => (b : Int)) (by rw [List.length_map, padL_len L hl]) (fun i hi => by
    have hi2 : i < (padL L).length := by rw [padL_len L hl]; exact hi
    unfold SecRow at h
    simp [World.cell?, h, Fw.cells, hi2, List.getD]) 9 Tryd.underlying9
  exact this

section
variable {B : Nat} {w : World} {g gn gl L cn cl : Nat} {vw : Value} {ns ls : List Value} {W : List (Nat × ByteArray)} {st : Int} {ar : Bool} {le : Int} {off : Bool}
theorem dk_types (h : Fk.DkAt B w g gn gl L cn cl vw ns ls W st ar le off) : (∃ cs fr, w.heap[g]? = some (.cells cs 92 fr)) ∧ (∃ cs, w.heap[gn]? = some (.cells cs 9 (0, 0))) ∧ (∃ cs, w.heap[gl]? = some (.cells cs 9 (0, 0))) ∧ ∀ q, vw.ownBlock = some q → ∃ cs, w.heap[q]? = some (.cells cs 95 (0, 0)) :=
  ⟨⟨_, _, h.head⟩, Fk.own_type h.now, Fk.own_type h.rows, fun q hq => own_blk h.own hq⟩
theorem dk_writeS (le' : Int) (hle : (if ar = true then le - 1 else le) = le') (i : Int) (n : Nat) (hni : (n : Int) = i) (h : Fk.DkAt B w g gn gl L cn cl vw ns ls W st ar le false) (hn : n < L) (sp : Option Addr) (cap : Nat) (s : ByteArray) (hcv : ∀ V, Fk.Only (· = g) w V → (convert 34 9 (.slice sp 512 cap)).run Tryd.prog V = .ok (.string s) V) (hm : W.length ≤ 1000000) (h0 : 0 ≤ le) (h1 : le ≤ 9223372036854775807) (h2 : 0 ≤ st) (h3 : st ≤ 1000000000) (hd : ¬ (ar = true ∧ le = 0)) :
    Calls Tryd.prog 27 #[.pointer (some ⟨g, 0, none⟩), .int .i64 i, .slice sp 512 cap] w fun e w' => e = .returned (.int .i64 0) ∧
      ∃ gw cw, Fk.DkAt B w' g gn gl L cn cl (.slice (some ⟨gw, 0, none⟩) (W.length + 1) cw) (ns.set n (.string s)) ls (W ++ [(n, s)]) (st + 1) ar le' false ∧ Below B w w' ∧ KeepT g w w' := by
  subst hni
  subst hle
  obtain ⟨t1, t2, t3, t4⟩ := dk_types h
  refine (Fk.write_ok g _ _ vw st ar le w _ rfl W.length (Fk.wcells W) hm (Lib.hid h.own) (Lib.hid h.ne.2.2.2.1) gn L cn ns n hn sp cap s h0 h1 h2 h3 rfl (Lib.hid h.now) (Lib.hid ⟨h.ne.1, h.ne.2.2.2.2.1⟩) (Lib.hid h.head) hd (Lib.hid hcv)).mono ?_
  rintro e w' ⟨rfl, gw, cw, a1, a2, a3, a4, a5, a6, a7⟩
  have hB := Fk.dk_size h
  have r3 := Fk.own_only h.rows a7 fun k hk e => by
    cases hk
    rcases e with e | e | e
    · exact h.ne.2.1 e
    · exact h.ne.2.2.2.2.2 e
    · exact h.ne.2.2.1 e.symm
  have hgl : gw ≠ gl := fun e => by
    obtain ⟨cur, hq⟩ := Fk.own_type a2
    obtain ⟨cur', hq'⟩ := Fk.own_type r3
    rw [e, hq'] at hq
    exact absurd hq (by simp)
  have hge : B ≤ gw := a4.elim (fun e => h.ge.2.2.2 _ e) (fun e => Nat.le_trans hB e)
  refine ⟨rfl, gw, cw, ⟨a1, a3, r3, ?_, ⟨h.ge.1, h.ge.2.1, h.ge.2.2.1, fun k hk => by cases hk; exact hge⟩, ⟨h.ne.1, h.ne.2.1, h.ne.2.2.1, fun e => a5 (by cases e; rfl), fun e => a6 (by cases e; rfl), fun e => hgl (by cases e; rfl)⟩⟩, ?_, KeepT.of_only a7 ?_ ?_⟩
  · rw [Fk.wcells_snoc] at a2
    rw [List.length_append]
    exact a2
  · refine a7.below (fun k e => ?_) hB
    rcases e with e | e | e
    · exact e ▸ h.ge.1
    · exact h.ge.2.2.2 _ e
    · exact e ▸ h.ge.2.1
  · rintro q (rfl | e | rfl)
    · obtain ⟨cs, fr, x⟩ := t1
      exact ⟨cs, _, fr, x, .inl rfl⟩
    · obtain ⟨cs, x⟩ := t4 q e
      exact ⟨cs, _, _, x, .inr (.inr rfl)⟩
    · obtain ⟨cs, x⟩ := t2
      exact ⟨cs, _, _, x, .inr (.inl rfl)⟩
  · intro q cs fr hq hf
    obtain ⟨f1, f2, f3⟩ := foe_dk h hf
    have hlt := (Array.getElem?_eq_some_iff.1 hq).1
    refine ⟨?_, ⟨_, _, _, _, _, _, _, a1, fun e => f1 (Option.some.inj e).symm, fun e => f2 (Option.some.inj e).symm, fun e => ?_⟩⟩
    · rintro (rfl | e | e)
      · obtain ⟨cs', fr', x⟩ := t1
        rw [x] at hq
        exact absurd hq (by simp)
      · exact f3 e
      · exact f1 e
    · have e2 : gw = q := Option.some.inj e
      rcases a4 with e4 | e4
      · exact f3 (by rw [e4, e2])
      · omega
theorem dk_barrierS (le' : Int) (hle : (if ar = true then le - 1 else le) = le') (h : Fk.DkAt B w g gn gl L cn cl vw ns ls W st ar le false) (hin : ∀ x ∈ W, x.1 < L) (hm : W.length ≤ 1000000) (h0 : 0 ≤ le) (h1 : le ≤ 9223372036854775807) (h2 : 0 ≤ st) (h3 : st ≤ 1000000000) (hd : ¬ (ar = true ∧ le = 0)) :
    Calls Tryd.prog 28 #[.pointer (some ⟨g, 0, none⟩)] w fun e w' => e = .returned (.int .i64 0) ∧
      Fk.DkAt B w' g gn gl L cn cl (.slice none 0 0) ns (Fk.setAll ls W) [] (st + 1) ar le' false ∧ Below B w w' ∧ KeepT g w w' := by
  subst hle
  obtain ⟨t1, t2, t3, t4⟩ := dk_types h
  obtain ⟨ao, cw, rfl⟩ := Fk.vw_shape h.own
  refine (Fk.barrier_ok g _ st ar le w _ rfl ao cw W W.length rfl hm gl L cl ls (Lib.hid h.own) (Lib.hid ⟨h.ne.2.2.2.1, h.ne.2.2.2.2.2, h.ne.2.1⟩) (Lib.hid hin) (Lib.hid h.rows) h0 h1 h2 h3 (Lib.hid h.head) hd).mono ?_
  rintro e w' ⟨rfl, a1, a2, a3⟩
  refine ⟨rfl, ⟨a1, Fk.own_only h.now a3 fun k hk e => ?_, a2, World.ownsRow_nil _ _ _ _, ⟨h.ge.1, h.ge.2.1, h.ge.2.2.1, fun k hk => by cases hk⟩, ⟨h.ne.1, h.ne.2.1, h.ne.2.2.1, by simp [Value.ownBlock], by simp [Value.ownBlock], by simp [Value.ownBlock]⟩⟩, a3.below (fun k e => ?_) (Fk.dk_size h), KeepT.of_only a3 ?_ ?_⟩
  · cases hk
    rcases e with e | e
    · exact h.ne.1 e
    · exact h.ne.2.2.1 e
  · rcases e with e | e
    · exact e ▸ h.ge.1
    · exact e ▸ h.ge.2.2.1
  · rintro q (rfl | rfl)
    · obtain ⟨cs, fr, x⟩ := t1
      exact ⟨cs, _, fr, x, .inl rfl⟩
    · obtain ⟨cs, x⟩ := t3
      exact ⟨cs, _, _, x, .inr (.inl rfl)⟩
  · intro q cs fr hq hf
    obtain ⟨f1, f2, f3⟩ := foe_dk h hf
    refine ⟨?_, ⟨_, _, _, _, _, _, _, a1, fun e => f1 (Option.some.inj e).symm, fun e => f2 (Option.some.inj e).symm, fun e => by cases e⟩⟩
    rintro (rfl | e)
    · obtain ⟨cs', fr', x⟩ := t1
      rw [x] at hq
      exact absurd hq (by simp)
    · exact f2 e
end

theorem setT_snoc (ls : List ByteArray) (W : List (Nat × ByteArray)) (n : Nat) (s : ByteArray) : Fk.setT ls (W ++ [(n, s)]) = (Fk.setT ls W).set n s := by unfold Fk.setT; rw [List.foldl_append]; rfl
theorem setT_len (W : List (Nat × ByteArray)) : ∀ ls : List ByteArray, (Fk.setT ls W).length = ls.length := by
  unfold Fk.setT
  induction W with
  | nil => intro ls; rfl
  | cons x t ih => intro ls; rw [List.foldl_cons, ih, List.length_set]
theorem strs_set (ns : List ByteArray) (n : Nat) (s : ByteArray) : (Fk.strs ns).set n (.string s) = Fk.strs (ns.set n s) := by unfold Fk.strs; rw [List.map_set]

/-- a disk of L sectors that nobody armed: what Read tells -/
def Dq (B : Nat) (w : World) (g L : Nat) (ns : List ByteArray) (k : Nat) : Prop := ∃ gn gl cn cl vw ls W st, Fk.DkAt B w g gn gl L cn cl vw (Fk.strs ns) (Fk.strs ls) W st false 0 false ∧ Fk.setT ls W = ns ∧ (∀ x ∈ W, x.1 < L) ∧ W.length ≤ k ∧ 0 ≤ st ∧ st ≤ (k : Int)
theorem dq_below {B : Nat} {w w' : World} {g L k : Nat} {ns : List ByteArray} (h : Dq B w g L ns k) (hb : Below w.heap.size w w') : Dq B w' g L ns k := by
  obtain ⟨gn, gl, cn, cl, vw, ls, W, st, h1, h2⟩ := h
  exact ⟨gn, gl, cn, cl, vw, ls, W, st, h1.below hb, h2⟩
theorem dq_mono {B : Nat} {w : World} {g L k k' : Nat} {ns : List ByteArray} (h : Dq B w g L ns k) (hk : k ≤ k') : Dq B w g L ns k' := by
  obtain ⟨gn, gl, cn, cl, vw, ls, W, st, h1, h2, h3, h4, h5, h6⟩ := h
  exact ⟨gn, gl, cn, cl, vw, ls, W, st, h1, h2, h3, by omega, h5, by omega⟩
theorem dq_lt {B : Nat} {w : World} {g L k : Nat} {ns : List ByteArray} (h : Dq B w g L ns k) : g < w.heap.size ∧ B ≤ g ∧ B ≤ w.heap.size := by
  obtain ⟨gn, gl, cn, cl, vw, ls, W, st, h1, _⟩ := h
  exact ⟨Fk.head_lt h1.head, h1.ge.1, Fk.dk_size h1⟩
theorem dq_type {B : Nat} {w : World} {g L k : Nat} {ns : List ByteArray} (h : Dq B w g L ns k) : ∃ cs fr, w.heap[g]? = some (.cells cs 92 fr) := by
  obtain ⟨gn, gl, cn, cl, vw, ls, W, st, h1, _⟩ := h
  exact (dk_types h1).1
theorem dq_len {B : Nat} {w : World} {g L k : Nat} {ns : List ByteArray} (h : Dq B w g L ns k) : ns.length = L := by
  obtain ⟨gn, gl, cn, cl, vw, ls, W, st, h1, _⟩ := h
  have := h1.now.1
  unfold Fk.strs at this
  simpa using this
theorem dq_write {B : Nat} {w : World} {g L k : Nat} {ns : List ByteArray} (h : Dq B w g L ns k) (hk : k ≤ 1000000) (i : Int) (n : Nat) (hni : (n : Int) = i) (hn : n < L) (gb : Nat) (M : List Nat) (hs : SecRow w gb M) (hl : M.length ≤ 512) :
    Calls Tryd.prog 27 #[.pointer (some ⟨g, 0, none⟩), .int .i64 i, .slice (some ⟨gb, 0, none⟩) 512 512] w fun e w' => e = .returned (.int .i64 0) ∧ Dq B w' g L (ns.set n (sec M)) (k + 1) ∧ Below B w w' ∧ KeepT g w w' := by
  obtain ⟨cs, fr, hty⟩ := dq_type h
  obtain ⟨gn, gl, cn, cl, vw, ls, W, st, h1, h2, h3, h4, h5, h6⟩ := h
  have hne : gb ≠ g := fun e => by
    unfold SecRow at hs
    rw [e, hty] at hs
    cases hs
  refine (dk_writeS 0 rfl i n hni h1 hn (some ⟨gb, 0, none⟩) 512 (sec M) (fun V hV => sec_conv' (L := M) (by
    unfold SecRow at hs ⊢
    rw [hV.block gb (Array.getElem?_eq_some_iff.1 hs).1 hne]; exact hs) hl) (by omega) (by decide) (by decide) h5 (by omega) (by decide)).mono ?_
  rintro e w' ⟨rfl, gw, cw, a1, a2, a3⟩
  rw [strs_set] at a1
  refine ⟨rfl, ⟨gn, gl, cn, cl, _, ls, _, _, a1, by rw [setT_snoc, h2], fun x hx => ?_, by rw [List.length_append]; simp; omega, by omega, by omega⟩, a2, a3⟩
  rcases List.mem_append.1 hx with hx | hx
  · exact h3 x hx
  · rw [List.mem_singleton] at hx; rw [hx]; exact hn
theorem dq_barrier {B : Nat} {w : World} {g L k : Nat} {ns : List ByteArray} (h : Dq B w g L ns k) (hk : k ≤ 1000000) :
    Calls Tryd.prog 28 #[.pointer (some ⟨g, 0, none⟩)] w fun e w' => e = .returned (.int .i64 0) ∧ Dq B w' g L ns (k + 1) ∧ Below B w w' ∧ KeepT g w w' := by
  obtain ⟨gn, gl, cn, cl, vw, ls, W, st, h1, h2, h3, h4, h5, h6⟩ := h
  refine (dk_barrierS 0 rfl h1 h3 (by omega) (by decide) (by decide) h5 (by omega) (by decide)).mono ?_
  rintro e w' ⟨rfl, a1, a2, a3⟩
  rw [Fk.setAll_strs] at a1
  exact ⟨rfl, ⟨gn, gl, cn, cl, _, _, _, _, a1, h2, by simp, by simp, by omega, by omega⟩, a2, a3⟩
theorem read_ok2 (g : Nat) (vn vl vw : Value) (st : Int) (ar : Bool) (le : Int) (w : World) (n : Nat) (s : ByteArray) (gn L C : Nat) (hv : vn = .slice (some ⟨gn, 0, none⟩) L C) (hn : n < L) (hc : w.cell? ⟨gn, n, none⟩ = some (.string s)) (hb : Hid (Fk.Head w g vn vl vw st ar le false)) :
    Calls Tryd.prog 31 #[.pointer (some ⟨g, 0, none⟩), .int .i64 (n : Int)] w fun e w' => ∃ cap, e = .returned (.tuple #[.slice (some ⟨w.heap.size, 0, none⟩) s.size cap, .int .i64 0]) ∧ (s.size ≤ cap) ∧ (∀ j, j < s.size → w'.cell? ⟨w.heap.size, j, none⟩ = some (.int .u8 (s.data.toList.getD j 0).toNat)) ∧ w.heap.size < w'.heap.size ∧ Below w.heap.size w w' := by
  have hcv := Lib.run_convert_string_bytes (P := Tryd.prog) w 9 34 5 s Tryd.underlying9 Tryd.underlying34 Tryd.underlying5
  have HBW := Lib.hid (Fk.read_world w 5 s)
  have hge := Lib.hid (grownCap_ge w s.size 0 5)
  generalize Lib.bytesWorld w 5 s = w2 at *
  generalize grownCap w s.size 0 5 = cp at *
  have hc6 := Fk.head6 hb.out
  have hc0 := Fk.head0 hb.out
  have HH := Lib.hid (Fk.has_any g vn vl vw st ar le false w (some ⟨gn, 0, none⟩) n L C hv hb)
  have hg0 : decide ((0 : Int) ≤ (n : Int) ∧ (n : Int) < (L : Int)) = true := decide_eq_true (by omega)
  rw [hg0] at HH
  have hi0 : (0 : Int) ≤ (n : Int) := Int.natCast_nonneg n
  have hi1 : (n : Int) < (L : Int) := by omega
  subst hv
  go_enter Tryd.func31, Tryd.ntmps31
  go_wp2_with fail
  refine HH.out.mono ?_
  rintro e w' ⟨rfl, hww⟩
  have hww := hww.symm
  subst hww
  go_wp2_with fail
  go_ret2
  exact ⟨cp, rfl, hge.out, HBW.out⟩
theorem dq_read2 {B : Nat} {w : World} {g L k : Nat} {ns : List ByteArray} (h : Dq B w g L ns k) (i : Int) (n : Nat) (hni : (n : Int) = i) (hn : n < L) (s : ByteArray) (hs : ns[n]? = some s) :
    Calls Tryd.prog 31 #[.pointer (some ⟨g, 0, none⟩), .int .i64 i] w fun e w' => ∃ cap, e = .returned (.tuple #[.slice (some ⟨w.heap.size, 0, none⟩) s.size cap, .int .i64 0]) ∧ s.size ≤ cap ∧ Fc.Src w' (some ⟨w.heap.size, 0, none⟩) (Fw.bytesOf s) ∧ w.heap.size < w'.heap.size ∧ Below w.heap.size w w' := by
  subst hni
  obtain ⟨gn, gl, cn, cl, vw, ls, W, st, h1, h2, h3, h4, h5, h6⟩ := h
  refine (read_ok2 g _ _ vw st false 0 w n s gn L cn rfl hn (by
    rw [World.ownsRow.cellAt h1.now n (by omega)]
    unfold Fk.strs
    rw [List.getElem?_map, hs]; rfl) (Lib.hid h1.head)).mono ?_
  rintro e w' ⟨cap, rfl, a0, a1, a2, a3⟩
  refine ⟨cap, rfl, a0, fun _ => ⟨w.heap.size, 0, rfl, fun j hj => ?_⟩, a2, a3⟩
  rw [Fw.bytesOf_len] at hj
  rw [Nat.zero_add, a1 j hj]
  have hj2 : j < s.data.toList.length := by simpa using hj
  simp [Fw.bytesOf, List.getD, hj]
theorem dq_read {B : Nat} {w : World} {g L k : Nat} {ns : List ByteArray} (h : Dq B w g L ns k) (i : Int) (n : Nat) (hni : (n : Int) = i) (hn : n < L) (s : ByteArray) (hs : ns[n]? = some s) :
    Calls Tryd.prog 31 #[.pointer (some ⟨g, 0, none⟩), .int .i64 i] w fun e w' => ∃ cap, e = .returned (.tuple #[.slice (some ⟨w.heap.size, 0, none⟩) s.size cap, .int .i64 0]) ∧ Fc.Src w' (some ⟨w.heap.size, 0, none⟩) (Fw.bytesOf s) ∧ w.heap.size < w'.heap.size ∧ Below w.heap.size w w' := by
  subst hni
  obtain ⟨gn, gl, cn, cl, vw, ls, W, st, h1, h2, h3, h4, h5, h6⟩ := h
  refine (Fk.read_ok g _ _ vw st false 0 w n s gn L cn rfl hn (by
    rw [World.ownsRow.cellAt h1.now n (by omega)]
    unfold Fk.strs
    rw [List.getElem?_map, hs]; rfl) (Lib.hid h1.head)).mono ?_
  rintro e w' ⟨cap, rfl, a1, a2, a3⟩
  refine ⟨cap, rfl, fun _ => ⟨w.heap.size, 0, rfl, fun j hj => ?_⟩, a2, a3⟩
  rw [Fw.bytesOf_len] at hj
  rw [Nat.zero_add, a1 j hj]
  have hj2 : j < s.data.toList.length := by simpa using hj
  simp [Fw.bytesOf, List.getD, hj]
theorem bytesOf_sv (L : List Nat) (h : ∀ b ∈ L, b < 256) : Fw.bytesOf (Fw.sv L) = L := Fc.sv_bytes L h
theorem bytesOf_sec (L : List Nat) (h : ∀ b ∈ L, b < 256) : Fw.bytesOf (sec L) = padL L := bytesOf_sv _ (padL_byte h)
end Go.Proofs.YtfhgdcljhncjmaaDoor
