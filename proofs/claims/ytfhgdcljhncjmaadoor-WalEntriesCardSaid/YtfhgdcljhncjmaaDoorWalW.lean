/- write: a record's sectors, the first one last. -/
import Derived.Test.YtfhgdcljhncjmaaDoorWalV
namespace Go.Proofs.YtfhgdcljhncjmaaDoor
open Go.ChangeShapes Go.WideShapes Go.ChangeAt Go.RowKit Go.Shelf
set_option linter.unusedVariables false
set_option maxRecDepth 100000
attribute [local go_sem] Oper.semAt_some

theorem chunk_stops {g : Nat} (F : Fence) (n : Nat) (hFn : F.fn 75) (hO : OpenF F) (hro : F.round = none) (hn : 1 ≤ n) (Bs Bn X gb ob len cap : Nat) (sp : Option Addr) (hsp : 0 < len → sp = some ⟨gb, ob, none⟩) (hlen : len ≤ 100000) (hlc : len ≤ cap) (w : World) (hXs : Bs ≠ X) (hXn : Bn ≠ X) (hBs : w.heap[Bs]? = some (.cells #[.slice sp len cap] 34 (0, 0))) (hBn : w.heap[Bn]? = some (.cells #[.int .i64 511] 3 (0, 0))) :
    SeqStopsK F n Tryd.prog 75 #[.pointer (some ⟨Bs, 0, none⟩), .pointer (some ⟨Bn, 0, none⟩)] (encC gb ob len) (KeepC g X) (fun ys => ys = List.range (nparts len)) (fun pre => ∃ k, k ≤ nparts len ∧ pre = List.range k) (nparts len) w := fun l J Jx W hW hJ _ hY h0 =>
  chunk1_in F n hFn hO hro hn l Bs Bn X gb ob len cap sp hsp hlen hlc J Jx (fun pre W1 W2 h hb => by
    refine hJ pre W1 W2 none h (grown_of_below hb) (fun r e => by cases e)) hY W hXs hXn (by rw [hW.block Bs (Array.getElem?_eq_some_iff.1 hBs).1]; exact hBs) (by rw [hW.block Bn (Array.getElem?_eq_some_iff.1 hBn).1]; exact hBn) h0
/-- the writes of a record's parts, from the i-th on -/
def wrs (p : Nat) (b : List Nat) : Nat → List Nat → List (Option (Nat × ByteArray))
  | _, [] => []
  | i, x :: t => some (p + 1 + i, sec (partL (chunk b x))) :: wrs p b (i + 1) t
theorem wrs_snoc (p : Nat) (b : List Nat) : ∀ (pre : List Nat) (i x : Nat), wrs p b i (pre ++ [x]) = wrs p b i pre ++ [some (p + 1 + (i + pre.length), sec (partL (chunk b x)))]
  | [], i, x => rfl
  | y :: t, i, x => by
    rw [List.cons_append, wrs, wrs, wrs_snoc p b t (i + 1) x, List.cons_append, List.length_cons, show i + 1 + t.length = i + (t.length + 1) by omega]
/-- all that a record's writing does -/
def recActs (ag nr : Int) (p : Nat) (b : List Nat) : List (Option (Nat × ByteArray)) := wrs p b 0 (List.range (nparts b.length)) ++ [none, some (p, sec (firstL ag nr (b.length : Int) ((Fc.crcOf b : Nat) : Int))), none]
theorem src_chunk {W : World} {gb ob : Nat} {b : List Nat} {sp : Option Addr} (hsp : 0 < b.length → sp = some ⟨gb, ob, none⟩) (h : Fc.Src W sp b) (x : Nat) : Fc.Src W (some ⟨gb, ob + 511 * x, none⟩) (chunk b x) := fun hp => by
  have hl := chunk_len b x
  obtain ⟨g', o', e, hc⟩ := h (by omega)
  rw [hsp (by omega)] at e
  cases e
  refine ⟨gb, ob + 511 * x, rfl, fun i hi => ?_⟩
  have h2 := hc (511 * x + i) (by omega)
  rw [show ob + 511 * x + i = ob + (511 * x + i) by omega, h2]
  congr 3
  unfold chunk
  have hi2 : i < 511 := by omega
  simp [List.getD, hi2]
theorem al_new (W : World) (o : Obj) (n : Nat) (h : W.heap.size = n) : (W.alloc o).heap[n]? = some o := by subst h; exact World.alloc_heap_new W o
theorem al_old {W : World} {q : Nat} {x : Obj} (o : Obj) (h : W.heap[q]? = some x) : (W.alloc o).heap[q]? = some x := (Below.heap_alloc W o q (Array.getElem?_eq_some_iff.1 h).1).trans h
theorem alloc5 (w : World) (o0 o1 o2 o3 o4 : Obj) : ((((((w.alloc o0).alloc o1).alloc o2).alloc o3).alloc o4).heap.size = w.heap.size + 5) ∧ ((((((w.alloc o0).alloc o1).alloc o2).alloc o3).alloc o4).heap[w.heap.size]? = some o0) ∧ ((((((w.alloc o0).alloc o1).alloc o2).alloc o3).alloc o4).heap[w.heap.size + 1]? = some o1) ∧ ((((((w.alloc o0).alloc o1).alloc o2).alloc o3).alloc o4).heap[w.heap.size + 1 + 1]? = some o2) ∧ ((((((w.alloc o0).alloc o1).alloc o2).alloc o3).alloc o4).heap[w.heap.size + 1 + 1 + 1]? = some o3) ∧ ((((((w.alloc o0).alloc o1).alloc o2).alloc o3).alloc o4).heap[w.heap.size + 1 + 1 + 1 + 1]? = some o4) ∧ Below w.heap.size w (((((w.alloc o0).alloc o1).alloc o2).alloc o3).alloc o4) :=
  ⟨by simp, al_old _ (al_old _ (al_old _ (al_old _ (al_new _ _ _ rfl)))), al_old _ (al_old _ (al_old _ (al_new _ _ _ (by simp)))), al_old _ (al_old _ (al_new _ _ _ (by simp))), al_old _ (al_new _ _ _ (by simp)), al_new _ _ _ (by simp), (((((Below.refl _ w).alloc (Nat.le_refl _) _).alloc (by simp) _).alloc (by simp; omega) _).alloc (by simp; omega) _).alloc (by simp; omega) _⟩
/-- bytes in a block of bytes, or in one that was there ahead of the disk -/
def Row8 (B : Nat) (w : World) (sp : Option Addr) (b : List Nat) : Prop := 0 < b.length → ∃ g o, sp = some ⟨g, o, none⟩ ∧ (∀ i, i < b.length → w.cell? ⟨g, o + i, none⟩ = some (.int .u8 ((b.getD i 0 : Nat) : Int))) ∧ ((∃ cs fr, w.heap[g]? = some (.cells cs 5 fr)) ∨ g < B)
theorem Row8.src {B : Nat} {w : World} {sp : Option Addr} {b : List Nat} (h : Row8 B w sp b) : Fc.Src w sp b := fun hp => by
  obtain ⟨g, o, e, hc, _⟩ := h hp
  exact ⟨g, o, e, hc⟩
theorem row8_same {B : Nat} {w w' : World} {sp : Option Addr} {b : List Nat} (h : Row8 B w sp b) (hk : ∀ g, ((∃ cs fr, w.heap[g]? = some (.cells cs 5 fr)) ∨ g < B) → ∀ x, w.heap[g]? = some x → w'.heap[g]? = some x) : Row8 B w' sp b := fun hp => by
  obtain ⟨g, o, e, hc, hor⟩ := h hp
  refine ⟨g, o, e, fun i hi => ?_, ?_⟩
  · have h3 := hc i hi
    have hlt := World.block_lt_of_cell? w _ h3
    obtain ⟨x, hx⟩ : ∃ x, w.heap[g]? = some x := ⟨_, Array.getElem?_eq_getElem hlt⟩
    have h4 := hk g hor x hx
    unfold World.cell? at h3 ⊢
    simp only at h3 ⊢
    rw [h4]
    rw [hx] at h3
    exact h3
  · rcases hor with ⟨cs, fr, hh⟩ | hh
    · exact .inl ⟨cs, fr, hk g (.inl ⟨cs, fr, hh⟩) _ hh⟩
    · exact .inr hh
theorem row8_keep {B : Nat} {w w' : World} {sp : Option Addr} {b : List Nat} (h : Row8 B w sp b) {gd : Nat} (hk : KeepT gd w w') (hb : Below B w w') : Row8 B w' sp b :=
  row8_same h fun g hor x hx => by
    rcases hor with ⟨cs, fr, hh⟩ | hh
    · rw [hx] at hh
      cases hh
      exact hk.cells hx notT8
    · rw [hb.block g hh]; exact hx
theorem row8_below {B : Nat} {w w' : World} {sp : Option Addr} {b : List Nat} (h : Row8 B w sp b) (hb : Below w.heap.size w w') : Row8 B w' sp b :=
  row8_same h fun g _ x hx => by rw [hb.block g (Array.getElem?_eq_some_iff.1 hx).1]; exact hx
theorem cells_grown {W W' : World} {row : Option Nat} (hg : W.grownBy W' row) (hr : ∀ r, row = some r → ∃ o : Obj, W.heap[r]? = some o ∧ o.isCells = false) {q : Nat} {cs : Array Value} {t : TypeId} {fr : Nat × Nat} (h : W.heap[q]? = some (.cells cs t fr)) : W'.heap[q]? = some (.cells cs t fr) := by
  rw [hg.block q (Array.getElem?_eq_some_iff.1 h).1 (fun e => ?_)]
  · exact h
  · obtain ⟨o, ho, hc⟩ := hr q e.symm
    rw [h] at ho
    cases ho
    simp [Obj.isCells] at hc
theorem own_grown {W W' : World} {row : Option Nat} (hg : W.grownBy W' row) (hr : ∀ r, row = some r → ∃ o : Obj, W.heap[r]? = some o ∧ o.isCells = false) {b : Nat} {e : TypeId} {z : Nat} {v : Value} {n : Nat} {xs : List Value} (h : W.ownsRow b e z v n xs) : W'.ownsRow b e z v n xs :=
  Fk.own_same h fun q hq => by
    obtain ⟨cs, hc⟩ := own_blk h hq
    rw [cells_grown hg hr hc, hc]
theorem da_grown {B : Nat} {W W' : World} {g L k : Nat} {s : Dst} {row : Option Nat} (h : Da B W g L s k) (hg : W.grownBy W' row) (hr : ∀ r, row = some r → ∃ o : Obj, W.heap[r]? = some o ∧ o.isCells = false) : Da B W' g L s k := by
  obtain ⟨gn, gl, cn, cl, vw, st, h1, h2⟩ := h
  exact ⟨gn, gl, cn, cl, vw, st, ⟨cells_grown hg hr h1.head, own_grown hg hr h1.now, own_grown hg hr h1.rows, own_grown hg hr h1.own, h1.ge, h1.ne⟩, h2⟩
theorem da_only {B : Nat} {w w' : World} {g L k l : Nat} {s : Dst} (h : Da B w g L s k) (ho : Fk.Only (· = l) w w') (hl : ∃ cs t fr, w.heap[l]? = some (.cells cs t fr) ∧ ¬ DiskT t) : Da B w' g L s k := by
  obtain ⟨gn, gl, cn, cl, vw, st, h1, h2⟩ := h
  obtain ⟨⟨c1, f1, t1⟩, ⟨c2, t2⟩, ⟨c3, t3⟩, t4⟩ := dk_types h1
  obtain ⟨c0, t0, f0, hl, hn⟩ := hl
  have key : ∀ {q cs t fr}, w.heap[q]? = some (.cells cs t fr) → DiskT t → q ≠ l := fun hq ht e => by
    rw [e, hl] at hq
    cases hq
    exact hn ht
  refine ⟨gn, gl, cn, cl, vw, st, ⟨Fk.head_only h1.head ho fun e => key t1 (.inl rfl) e, Fk.own_only h1.now ho fun q hq e => ?_, Fk.own_only h1.rows ho fun q hq e => ?_, Fk.own_only h1.own ho fun q hq e => ?_, h1.ge, h1.ne⟩, h2⟩
  · cases hq; exact key t2 (.inr (.inl rfl)) e
  · cases hq; exact key t3 (.inr (.inl rfl)) e
  · obtain ⟨c4, t5⟩ := t4 q hq
    exact key t5 (.inr (.inr rfl)) e
theorem KeepsOthers.of_keep {g : Nat} {w w' : World} (hs : w.heap.size ≤ w'.heap.size) (h : KeepT g w w') : KeepsOthers w w' := ⟨hs, fun k o hk ho => h.1 k o hk fun cs t fr e => by
  rw [e] at ho
  simp [Obj.isCells] at ho⟩
theorem set_keep {W : World} {X q : Nat} {cs cs' : Array Value} {t t' : TypeId} {fr fr' : Nat × Nat} (hX : W.heap[X]? = some (.cells cs' t' fr')) (h : W.heap[q]? = some (.cells cs t fr)) (hne : t ≠ t') (u : Value) : (W.setCell ⟨X, 0, none⟩ u).heap[q]? = some (.cells cs t fr) := by
  have hqx : X ≠ q := fun e => by
    rw [e, h] at hX
    cases hX
    exact hne rfl
  unfold World.setCell
  simp only
  rw [Array.getElem?_modify, if_neg hqx]
  exact h
theorem set_own {W : World} {X : Nat} {v : Value} {t : TypeId} (h : W.heap[X]? = some (.cells #[v] t (0, 0))) (u : Value) : (W.setCell ⟨X, 0, none⟩ u).heap[X]? = some (.cells #[u] t (0, 0)) := by
  simp [World.setCell, Array.getElem?_modify, h]
theorem only_set0 (W : World) (X : Nat) (u : Value) : Fk.Only (· = X) W (W.setCell ⟨X, 0, none⟩ u) := Fk.only_set (Fk.Only.refl _ W) 0 u
/-- blocks stay: but for those of a disk, and one -/
def KeepE (g X : Nat) (w w' : World) : Prop := (∀ (q : Nat) (o : Obj), q ≠ X → w.heap[q]? = some o → (∀ (cs : Array Value) (t : TypeId) (fr : Nat × Nat), o = Obj.cells cs t fr → ¬ DiskT t) → w'.heap[q]? = some o) ∧
  (g ≠ X → ∀ (q : Nat) (cs : Array Value) (fr : Nat × Nat), q ≠ X → w.heap[q]? = some (Obj.cells cs 9 fr) → Foe g q w → w'.heap[q]? = some (Obj.cells cs 9 fr) ∧ Foe g q w')
theorem KeepE.refl {g : Nat} (X : Nat) (w : World) : KeepE g X w w := ⟨fun _ _ _ h _ => h, fun _ _ _ _ _ h k => ⟨h, k⟩⟩
theorem KeepE.trans {g X : Nat} {a b c : World} (h : KeepE g X a b) (k : KeepE g X b c) : KeepE g X a c := ⟨fun q o hx hq ht => k.1 q o hx (h.1 q o hx hq ht) ht, fun hg q cs fr hx hq hf => k.2 hg q cs fr hx (h.2 hg q cs fr hx hq hf).1 (h.2 hg q cs fr hx hq hf).2⟩
theorem KeepE.of_keep {g X : Nat} {w w' : World} (h : KeepT g w w') : KeepE g X w w' := ⟨fun q o _ hq ht => h.1 q o hq ht, fun _ q cs fr _ hq hf => h.2 q cs fr hq hf⟩
theorem KeepE.put {g X : Nat} (b : World) (u : Value) : KeepE g X b (b.setCell ⟨X, 0, none⟩ u) := ⟨fun q o hx hq ht => by rw [set_other hx]; exact hq, fun hg q cs fr hx hq hf => ⟨by rw [set_other hx]; exact hq, hf.same fun _ _ _ => set_other hg u⟩⟩
theorem KeepE.set {g X : Nat} {a b : World} (h : KeepE g X a b) (u : Value) : KeepE g X a (b.setCell ⟨X, 0, none⟩ u) := h.trans (KeepE.put b u)
theorem KeepE.cells {g X : Nat} {w w' : World} (h : KeepE g X w w') {q : Nat} {cs : Array Value} {t : TypeId} {fr : Nat × Nat} (hx : q ≠ X) (hq : w.heap[q]? = some (Obj.cells cs t fr)) (ht : ¬ DiskT t) : w'.heap[q]? = some (Obj.cells cs t fr) := h.1 q _ hx hq fun cs' t' fr' e => by cases e; exact ht
theorem keep_set {g : Nat} {a b : World} (h : KeepT g a b) {X : Nat} (hX : a.heap.size ≤ X) (u : Value) : KeepT g a (b.setCell ⟨X, 0, none⟩ u) := ⟨fun q o hq ht => by
  have hlt := (Array.getElem?_eq_some_iff.1 hq).1
  rw [set_other (by omega)]
  exact h.1 q o hq ht, fun q cs fr hq hf => by
  have hlt := (Array.getElem?_eq_some_iff.1 hq).1
  obtain ⟨h1, h2⟩ := h.2 q cs fr hq hf
  refine ⟨by rw [set_other (by omega)]; exact h1, h2.same fun _ _ _ => set_other ?_ u⟩
  obtain ⟨vn, vl, vw, st, ar, le, off, hh, _⟩ := hf
  unfold Fk.Head at hh
  have := (Array.getElem?_eq_some_iff.1 hh).1
  omega⟩
theorem keep_after {g X : Nat} {a b c : World} (h : KeepT g a b) (k : KeepE g X b c) (hX : a.heap.size ≤ X) : KeepT g a c := ⟨fun q o hq ht => k.1 q o (by have := (Array.getElem?_eq_some_iff.1 hq).1; omega) (h.1 q o hq ht) ht, fun q cs fr hq hf => k.2 (by
  obtain ⟨vn, vl, vw, st, ar, le, off, hh, _⟩ := hf
  unfold Fk.Head at hh
  have := (Array.getElem?_eq_some_iff.1 hh).1
  omega) q cs fr (by have := (Array.getElem?_eq_some_iff.1 hq).1; omega) (h.2 q cs fr hq hf).1 (h.2 q cs fr hq hf).2⟩
theorem KeepE.obj {g X : Nat} (b : World) (o' : Obj) : KeepE g X b (b.putObj X o') := ⟨fun q o hx hq ht => by rw [World.putObj_heap_other hx]; exact hq, fun hg q cs fr hx hq hf => ⟨by rw [World.putObj_heap_other hx]; exact hq, hf.same fun _ _ _ => World.putObj_heap_other hg⟩⟩
theorem notTP : ¬ DiskT 25 := by unfold DiskT; decide
theorem notTE : ¬ DiskT 24 := by unfold DiskT; decide
theorem frozen_row {w : World} {g : Nat} {cs : Array Value} {t : TypeId} (h : w.heap[g]? = some (.cells cs t (0, 0))) (i : Nat) : w.frozen? ⟨g, i, none⟩ = false := by simp [World.frozen?, h]
theorem part_chunk {W : World} {gb ob : Nat} {b : List Nat} {sp : Option Addr} (hsp : 0 < b.length → sp = some ⟨gb, ob, none⟩) (h : Fc.Src W sp b) (x : Nat) :
    Calls Tryd.prog 55 #[.slice (some ⟨gb, ob + 511 * x, none⟩) (qOf b.length x) (qOf b.length x)] W fun e w' => ∃ g, e = .returned (.slice (some ⟨g, 0, none⟩) 512 512) ∧ SecRow w' g (partL (chunk b x)) ∧ Below W.heap.size W w' := by
  have hl : (chunk b x).length = qOf b.length x := chunk_len b x
  have := part_any (some ⟨gb, ob + 511 * x, none⟩) (qOf b.length x) (chunk b x) (by rw [hl]; unfold qOf; omega) W (Lib.hid (src_chunk hsp h x)) (Lib.hid (.inr ⟨_, rfl⟩))
  rw [hl] at this
  refine this.mono ?_
  rintro e w' ⟨g, rfl, _, h1, h2, _⟩
  exact ⟨g, rfl, h1, h2⟩
theorem sum_slice (W : World) (gs cr n : Nat) (sp : Option Addr) (L : List Nat) (hL : L.length = n) (hn : n ≤ 1000000) (hB : ∀ b ∈ L, b < 256) (ht : Hid (Fc.Tab W)) (hc : W.cell? ⟨gs, 0, none⟩ = some (.slice sp n cr)) (hs : Fc.Src W sp L) :
    Calls Tryd.prog 57 #[.slice (some ⟨gs, 0, none⟩) 1 1] W fun e w' => e = .returned (.int .u32 ((Fc.crcOf L : Nat) : Int)) ∧ W = w' := by
  have e : Fc.all [(sp, cr, L)] = L := by simp [Fc.all]
  have h := Fc.sum_any gs 0 1 [(sp, cr, L)] (by simp) (fun p hp => by
    rw [List.mem_singleton] at hp; subst hp; exact ⟨by show L.length ≤ 1000000; omega, hB⟩) W ht (Lib.hid fun i p hp => by
    match i, hp with
    | 0, hp =>
      simp at hp; subst hp
      exact ⟨by rw [hL]; exact hc, hs⟩
    | n + 1, hp => simp at hp)
  rw [e] at h
  exact h
theorem wrs_len (p : Nat) (b : List Nat) : ∀ (l : List Nat) (i : Nat), (wrs p b i l).length = l.length
  | [], _ => rfl
  | x :: t, i => by rw [wrs, List.length_cons, List.length_cons, wrs_len p b t (i + 1)]
theorem wrs_append (p : Nat) (b : List Nat) : ∀ (l t : List Nat) (i : Nat), wrs p b i (l ++ t) = wrs p b i l ++ wrs p b (i + l.length) t
  | [], t, i => rfl
  | x :: l, t, i => by
    rw [List.cons_append, wrs, wrs, List.cons_append, wrs_append p b l t (i + 1), List.length_cons, show i + 1 + l.length = i + (l.length + 1) by omega]
theorem wrs_cut (p : Nat) (b l r : List Nat) (e : l = r ++ l.drop r.length) : wrs p b 0 l = wrs p b 0 r ++ (wrs p b 0 l).drop (wrs p b 0 r).length := by
  have h : wrs p b 0 l = wrs p b 0 r ++ wrs p b (0 + r.length) (l.drop r.length) := by rw [← wrs_append, ← e]
  rw [h, List.drop_left]
set_option maxHeartbeats 8000000 in
theorem write_any {B : Nat} {w : World} {g L k l : Nat} {s : Dst} {fs en nr ag hd fl : Int} (h : Da B w g L s k) (hk : k ≤ 50000) (p : Nat) (b : List Nat) (len cap : Nat) (sp : Option Addr) (hbl : b.length = len) (hbb : ∀ x ∈ b, x < 256) (hlen : len ≤ 100000) (hlc : len ≤ cap) (hL : L ≤ 1000) (hfit : p + 1 + nparts len ≤ L) (hag : Fw.IntOk ag) (hnr : Fw.IntOk nr) (hlog : LogAt w l g fs en (p : Int) nr ag hd fl) (hS : Row8 B w sp b) (hG : 0 < B) (ht : Hid (Fc.Tab w)) (s' : Dst) (ok : Bool) (hr : acts s (recActs ag nr p b) = (s', ok)) :
    Calls Tryd.prog 33 #[.pointer (some ⟨l, 0, none⟩), .slice sp len cap] w fun e w' => ((ok = true ∧ e = .returned (.int .i64 0)) ∨ (ok = false ∧ e = .returned (.int .i64 8))) ∧ Hid (Da B w' g L s' (k + nparts len + 3)) ∧ Hid (Below B w w') ∧ Hid (KeepT g w w') := by
  have HC := Lib.hid (fun W => chunk_any sp len cap W)
  obtain ⟨c0, c1, c2, c3, c4, c5, c6, c7⟩ := log_cells hlog
  have hBw := (da_lt h).2.2
  have hA1 : Below w.heap.size w ((w.alloc (.cells #[.pointer (some ⟨l, 0, none⟩)] 25)).alloc (.cells #[.int .i64 0] 24)) := ((Below.refl _ w).alloc (Nat.le_refl _) _).alloc (by simp) _
  have c3a := (log_cells (log_below hlog hA1)).2.2.2.1
  obtain ⟨gb, ob, hsp⟩ : ∃ gb ob, 0 < b.length → sp = some ⟨gb, ob, none⟩ := by
    by_cases hp : 0 < b.length
    · obtain ⟨g0, o0, e, _⟩ := hS hp
      exact ⟨g0, o0, fun _ => e⟩
    · exact ⟨0, 0, fun h => absurd h hp⟩
  have HSp := Lib.hid hsp
  have H0 := Lib.hid h
  have HLg := Lib.hid hlog
  have HS := Lib.hid hS
  have Hr := Lib.hid hr
  have HBL := Lib.hid (fun _ : True => hbl)
  have HBB := Lib.hid hbb
  have hnp : nparts len ≤ 1000 := by omega
  clear h hlog hS hr hbl hbb c0 c1 c2 c3 c4 c5 c6 c7 hsp
  refine (callsIn_wide (n := 3)).1 ?_
  refine callsIn_of_wp_marks Tryd.func33 rfl trivial ?_ rfl
  simp only [Tryd.ntmps33, List.size_toArray, List.length_cons, List.length_nil, Nat.reduceAdd, Nat.reduceSub, Array.replicate_succ, Array.replicate_zero, List.push_toArray, List.append_toArray, List.nil_append, List.cons_append]
  gi_wp2_with (refine ⟨trivial, ?_⟩; gi_at_call 54; refine (callsIn_wide.2 (HC.out _)).mono ?_; rintro e w' ⟨rfl, rfl⟩)
  obtain ⟨z0, z1, z2, z3, z4, z5, z6⟩ := alloc5 w (.cells #[.pointer (some ⟨l, 0, none⟩)] 25) (.cells #[.int .i64 0] 24) (.cells #[.int .i64 (p : Int)] 3) (.cells #[.slice sp len cap] 34) (.cells #[.int .i64 511] 3)
  obtain ⟨W0, hW0⟩ : ∃ W0, (((((w.alloc (.cells #[.pointer (some ⟨l, 0, none⟩)] 25)).alloc (.cells #[.int .i64 0] 24)).alloc (.cells #[.int .i64 (p : Int)] 3)).alloc (.cells #[.slice sp len cap] 34)).alloc (.cells #[.int .i64 511] 3)) = W0 := ⟨_, rfl⟩
  rw [hW0] at z0 z1 z2 z3 z4 z5 z6
  rw [hW0]
  clear hW0 c3a hA1 HC
  obtain ⟨Bl, hBl⟩ : ∃ Bl, w.heap.size = Bl := ⟨_, rfl⟩
  obtain ⟨Br, hBr⟩ : ∃ Br, w.heap.size + 1 = Br := ⟨_, rfl⟩
  obtain ⟨Bx, hBx⟩ : ∃ Bx, w.heap.size + 1 + 1 = Bx := ⟨_, rfl⟩
  obtain ⟨Bs, hBs⟩ : ∃ Bs, w.heap.size + 1 + 1 + 1 = Bs := ⟨_, rfl⟩
  obtain ⟨Bn, hBn⟩ : ∃ Bn, w.heap.size + 1 + 1 + 1 + 1 = Bn := ⟨_, rfl⟩
  have hord : Bl = w.heap.size ∧ Br = w.heap.size + 1 ∧ Bx = w.heap.size + 2 ∧ Bs = w.heap.size + 3 ∧ Bn = w.heap.size + 4 ∧ W0.heap.size = w.heap.size + 5 := by omega
  rw [hBl] at z1
  rw [hBr] at z2
  rw [hBx] at z3
  rw [hBs] at z4
  rw [hBn] at z5
  rw [hBn, hBs, hBx, hBr, hBl]
  have hK0 : Hid (KeepT g w W0) := Lib.hid (KeepT.of_below (g := g) z6)
  have hD0 := Lib.hid (da_below H0.out z6)
  have Z1 := Lib.hid z1
  have Z2 := Lib.hid z2
  have Z3 := Lib.hid z3
  have hle0 : B ≤ W0.heap.size := by omega
  have HB0 : Hid (Below B w W0) := Lib.hid (z6.mono hBw)
  have HOrd := Lib.hid hord
  have hXs : Bs ≠ Bx := by omega
  have hXn : Bn ≠ Bx := by omega
  have hlog0 := log_lt HLg.out
  have HLt := Lib.hid hlog0
  have HZ0 := Lib.hid z0
  have HBW := Lib.hid hBw
  have HLE := Lib.hid hle0
  clear hBl hBr hBx hBs hBn hord z0 z1 z2 hlog0 hle0 hBw z6
  refine wpIn_rangeFunc_ownF rfl (by decide) (gf := 75) (lb := #[.pointer (some ⟨Bs, 0, none⟩), .pointer (some ⟨Bn, 0, none⟩)]) rfl trivial (enters_of Tryd.func75 (by kernel_rfl) rfl)
    (chunk_stops (g := g) Fence.wide 2 trivial openF_wide rfl (by decide) Bs Bn Bx gb ob len cap sp (by rw [← HBL.out trivial]; exact HSp.out) hlen hlc W0 hXs hXn z4 z5) (KeepC.trans (g := g)) KeepC.of_put (Below.refl _ _) (fun _ => rfl)
    (fun pre W => (∃ sj, acts s (wrs p b 0 pre) = (sj, true) ∧ Da B W g L sj (k + pre.length)) ∧ W.heap[Bx]? = some (.cells #[.int .i64 ((p + pre.length : Nat) : Int)] 3 (0, 0)) ∧ KeepE g Bx W0 W ∧ Below B w W)
    (fun c pre W => c = .ret ∧ (∃ sj, acts s (wrs p b 0 pre) = (sj, false) ∧ Da B W g L sj (k + pre.length)) ∧ W.heap[Br]? = some (.cells #[.int .i64 8] 24 (0, 0)) ∧ KeepT g w W ∧ Below B w W)
    ?hI ?hIx ?h0
    (fun x => { tmps := List.toArray ((.pointer (some ⟨l, 0, none⟩)) :: (.slice sp len cap) :: (.pointer (some ⟨Bl, 0, none⟩)) :: undef :: (.pointer (some ⟨Br, 0, none⟩)) :: (.pointer (some ⟨Bx, 0, none⟩)) :: (.slice (some ⟨gb, ob + 511 * x, none⟩) (qOf len x) (qOf len x)) :: undef :: (.pointer (some ⟨l, 0, none⟩)) :: (.pointer (some ⟨l, 0, none⟩)) :: (.pointer (some ⟨l, 3, none⟩)) :: (.int .i64 (p : Int)) :: (.slice sp len cap) :: (.func (.func 75) #[] #[.pointer (some ⟨Bs, 0, none⟩), .pointer (some ⟨Bn, 0, none⟩)]) :: (.slice (some ⟨gb, ob + 511 * x, none⟩) (qOf len x) (qOf len x)) :: undef :: undef :: undef :: undef :: undef :: undef :: undef :: undef :: undef :: undef :: undef :: undef :: undef :: undef :: undef :: undef :: undef :: undef :: undef :: undef :: undef :: undef :: undef :: undef :: undef :: undef :: undef :: undef :: undef :: undef :: undef :: undef :: undef :: undef :: undef :: undef :: undef :: ([] : List Value)), defers := [] }) ?assign ?body ?done ?stop
  case hI =>
    rintro pre A C row ⟨⟨sj, h1, h2⟩, h3, h4, h5⟩ hg hrow
    have hrow2 : ∀ r, row = some r → ∃ o : Obj, A.heap[r]? = some o ∧ o.isCells = false := fun r e => (hrow r e).2
    have hord := HOrd.out
    have hle0 := HLE.out
    refine ⟨⟨sj, h1, da_grown h2 hg hrow2⟩, cells_grown hg hrow2 h3, ⟨fun q o hq ho hn => ?_, fun hgX q cs fr hx hq hf => ⟨cells_grown hg hrow2 (h4.2 hgX q cs fr hx hq hf).1, (h4.2 hgX q cs fr hx hq hf).2.same fun _ _ h => (cells_grown hg hrow2 h).trans h.symm⟩⟩, h5.grown hg (da_lt h2).2.2 (fun r e => by have := (hrow r e).1; omega)⟩
    have h6 := h4.1 q o hq ho hn
    rw [hg.block q (Array.getElem?_eq_some_iff.1 h6).1 (fun e => by
      have := (hrow q e.symm).1
      have := (Array.getElem?_eq_some_iff.1 ho).1
      omega)]
    exact h6
  case hIx =>
    rintro c pre A C row ⟨e0, ⟨sj, h1, h2⟩, h3, h4, h5⟩ hg hrow
    have hrow2 : ∀ r, row = some r → ∃ o : Obj, A.heap[r]? = some o ∧ o.isCells = false := fun r e => (hrow r e).2
    have hord := HOrd.out
    have hle0 := HLE.out
    refine ⟨e0, ⟨sj, h1, da_grown h2 hg hrow2⟩, cells_grown hg hrow2 h3, ⟨fun q o ho hn => ?_, fun q cs fr hq hf => ⟨cells_grown hg hrow2 (h4.2 q cs fr hq hf).1, (h4.2 q cs fr hq hf).2.same fun _ _ h => (cells_grown hg hrow2 h).trans h.symm⟩⟩, h5.grown hg (da_lt h2).2.2 (fun r e => by have := (hrow r e).1; omega)⟩
    have h6 := h4.1 q o ho hn
    rw [hg.block q (Array.getElem?_eq_some_iff.1 h6).1 (fun e => by
      have := (hrow q e.symm).1
      have := (Array.getElem?_eq_some_iff.1 ho).1
      omega)]
    exact h6
  case h0 => exact ⟨⟨s, rfl, hD0.out⟩, z3, KeepE.refl _ _, HB0.out⟩
  case assign =>
    intro lr x W K hK
    unfold encC
    gi_wp2
    exact hK
  case body =>
    rintro lr pre x W ⟨⟨sj, hac, hD⟩, hnx, hke, hbl⟩ hlt
    have hO := openF_round lr
    clear z3 z4 z5
    obtain ⟨m, hm⟩ : ∃ m, pre.length = m := ⟨_, rfl⟩
    have HM := Lib.hid (fun _ : True => hm)
    rw [hm] at hD hnx hlt
    obtain ⟨pm, hpm⟩ : ∃ pm, p + m = pm := ⟨_, rfl⟩
    obtain ⟨qm, hqm⟩ : ∃ qm, pm + 1 = qm := ⟨_, rfl⟩
    have HPM : Hid (p + m = pm ∧ pm + 1 = qm) := Lib.hid ⟨hpm, hqm⟩
    rw [hpm] at hnx
    obtain ⟨s1, ok1, r1⟩ : ∃ s1 ok1, act1 sj (some (p + 1 + (0 + m), sec (partL (chunk b x)))) = (s1, ok1) := ⟨_, _, rfl⟩
    have HR1 := Lib.hid (fun _ : True => r1)
    have HAc := Lib.hid (fun _ : True => hac)
    have hcx := box_cell hnx
    have hfx := frozen_row hnx 0
    have hw1 : IntKind.i64.wrap ((pm : Int) + 1) = (qm : Int) := by rw [IntKind.wrap_i64]; omega
    have HKE := Lib.hid hke
    have HBL2 := Lib.hid hbl
    have HD := Lib.hid hD
    have HNX := Lib.hid hnx
    clear hm hac hD hnx r1 hke hbl hpm hqm
    gi_wp2
    obtain ⟨W1, hW1⟩ : ∃ W1, W.setCell ⟨Bx, 0, none⟩ (.int .i64 (qm : Int)) = W1 := ⟨_, rfl⟩
    rw [hW1]
    have hon := only_set0 W Bx (.int .i64 (qm : Int))
    rw [hW1] at hon
    have hD1 := Lib.hid (da_only HD.out hon ⟨_, _, _, HNX.out, notTI⟩)
    have hX1 := set_own HNX.out (.int .i64 (qm : Int))
    rw [hW1] at hX1
    have hE1 := HKE.out.set (.int .i64 (qm : Int))
    rw [hW1] at hE1
    have HX1 := Lib.hid hX1
    have HE1 := Lib.hid hE1
    have hl1 := hE1.cells (by have := HOrd.out; omega) Z1.out notTP
    have hK1 : KeepT g w W1 := keep_after hK0.out hE1 (by have := HOrd.out; omega)
    have HK1 := Lib.hid hK1
    have HL1 := Lib.hid hl1
    have HB1 : Below B w W1 := by rw [← hW1]; exact HBL2.out.setCell (p := ⟨Bx, 0, none⟩) (show B ≤ Bx by have := HOrd.out; have := HBW.out; omega) _
    have HKO : Hid (KeepsOthers W W1) := Lib.hid (by rw [← hW1]; exact KeepsOthers.setCell _ _ _)
    have HKC : Hid (KeepC g Bx W W1) := Lib.hid (by rw [← hW1]; exact KeepC.of_set _ _)
    have HB1h := Lib.hid HB1
    have hsz1 : B ≤ W1.heap.size := (da_lt hD1.out).2.2
    clear hW1 hon hX1 hE1 hl1 hK1 HB1 hcx hfx HKE HBL2 HD HNX hw1
    have HCl := Lib.hid (fun V (hv : KeepT g W1 V) => box_cell (hv.cells HL1.out notTP))
    have HCx := Lib.hid (fun V (hv : KeepT g W1 V) => box_cell (hv.cells HX1.out notTI))
    have HCg := Lib.hid (fun V (hv : KeepT g W1 V) => (log_cells (log_keep (log_keep HLg.out HK1.out) hv)).1)
    have HPt := Lib.hid (fun V (hv : KeepT g W1 V ∧ Below B W1 V) => part_chunk HSp.out (row8_keep (row8_keep HS.out HK1.out HB1h.out) hv.1 hv.2).src x)
    rw [HBL.out trivial] at HPt
    obtain ⟨ev, hev⟩ : ∃ ev : Int, (if ok1 = true then (0 : Int) else 8) = ev := ⟨_, rfl⟩
    have HWr : Hid (∀ V gq, Da B V g L sj (k + m) → SecRow V gq (partL (chunk b x)) → Calls Tryd.prog 27 #[.pointer (some ⟨g, 0, none⟩), .int .i64 (qm : Int), .slice (some ⟨gq, 0, none⟩) 512 512] V fun e w' => e = .returned (.int .i64 ev) ∧ Da B w' g L s1 (k + m + 1) ∧ Below B V w' ∧ KeepT g V w') := Lib.hid fun V gq hV hq => by
      refine (da_write hV (by omega) (qm : Int) (p + 1 + (0 + m)) (by have := HPM.out; omega) (by omega) gq _ hq (by rw [part_len, chunk_len]; omega) s1 ok1 (HR1.out trivial)).mono ?_
      rintro e w' ⟨h1 | h1, h2⟩
      · refine ⟨?_, h2⟩
        rw [h1.2, ← hev, if_pos h1.1]
      · refine ⟨?_, h2⟩
        rw [h1.2, ← hev, h1.1]; rfl
    gi_wp2
    let U : Nat → World → Prop := fun jX W => match jX with | 0 => True | 1 => True | 2 => True | 3 => True | 4 => True | 5 => True | 6 => True | 7 => Da B W g L sj (k + m) | 8 => True | _ => True
    let R : Nat → World → World → Prop := fun jX W W2 => match jX with | 0 => W = W2 | 1 => W = W2 | 2 => W = W2 | 3 => W = W2 | 4 => W = W2 | 5 => W = W2 | 6 => Below W.heap.size W W2 | 7 => Below B W W2 ∧ KeepT g W W2 | 8 => W = W2 | _ => W = W2
    let V : Nat → Value → World → Prop := fun jX v W => match jX with | 0 => v = .pointer (some ⟨l, 0, none⟩) | 1 => v = .pointer (some ⟨l, 0, none⟩) | 2 => v = .pointer (some ⟨l, 0, none⟩) | 3 => v = .pointer (some ⟨g, 0, none⟩) | 4 => v = .int .i64 (qm : Int) | 5 => v = .slice (some ⟨gb, ob + 511 * x, none⟩) (qOf len x) (qOf len x) | 6 => ∃ gq, v = .slice (some ⟨gq, 0, none⟩) 512 512 ∧ SecRow W gq (partL (chunk b x)) | 7 => v = .int .i64 ev ∧ Da B W g L s1 (k + m + 1) | 8 => v = .int .i64 ev | _ => True
    refine wpIn_region_fill2 (by kernel_rfl) U V (fun W => KeepT g W1 W ∧ Below B W1 W) R (by kernel_rfl) (by kernel_rfl) (⟨KeepT.of_below (g := g) ((Below.refl _ _).drew), (Below.refl _ _).drew⟩) ?_ ?_ ?_ ?_ ?_ ?_
    · intro jX
      match jX with
      | 0 => exact trivial
      | 1 => exact trivial
      | 2 => exact trivial
      | 3 => exact trivial
      | 4 => exact trivial
      | 5 => exact trivial
      | 6 => exact trivial
      | 7 => exact da_below hD1.out ((Below.refl _ _).drew)
      | 8 => exact trivial
      | nX + 9 => exact trivial
    · intro iX W W2 hr hi
      match iX, hr with
      | 0, hr => exact (show W = W2 from hr) ▸ hi
      | 1, hr => exact (show W = W2 from hr) ▸ hi
      | 2, hr => exact (show W = W2 from hr) ▸ hi
      | 3, hr => exact (show W = W2 from hr) ▸ hi
      | 4, hr => exact (show W = W2 from hr) ▸ hi
      | 5, hr => exact (show W = W2 from hr) ▸ hi
      | 6, hr => exact ⟨hi.1.trans (KeepT.of_below (g := g) hr), hi.2.trans (hr.mono (Nat.le_trans hsz1 hi.2.size))⟩
      | 7, hr => exact ⟨hi.1.trans hr.2, hi.2.trans hr.1⟩
      | 8, hr => exact (show W = W2 from hr) ▸ hi
      | nX + 9, hr => exact (show W = W2 from hr) ▸ hi
    · intro iX jX W W2 hij hi hui hr h
      match iX, hij, hui, hr with
      | 0, hij, hui, hr => exact (show W = W2 from hr) ▸ h
      | 1, hij, hui, hr => exact (show W = W2 from hr) ▸ h
      | 2, hij, hui, hr => exact (show W = W2 from hr) ▸ h
      | 3, hij, hui, hr => exact (show W = W2 from hr) ▸ h
      | 4, hij, hui, hr => exact (show W = W2 from hr) ▸ h
      | 5, hij, hui, hr => exact (show W = W2 from hr) ▸ h
      | 6, hij, hui, hr =>
        match jX, hij, h with
        | 0, hij, h => exact h
        | 1, hij, h => exact h
        | 2, hij, h => exact h
        | 3, hij, h => exact h
        | 4, hij, h => exact h
        | 5, hij, h => exact h
        | 6, hij, h => exact absurd rfl hij
        | 7, hij, h => exact da_below h hr
        | 8, hij, h => exact h
        | nX + 9, hij, h => exact h
      | 7, hij, hui, hr =>
        match jX, hij, h with
        | 0, hij, h => exact h
        | 1, hij, h => exact h
        | 2, hij, h => exact h
        | 3, hij, h => exact h
        | 4, hij, h => exact h
        | 5, hij, h => exact h
        | 6, hij, h => exact h
        | 7, hij, h => exact absurd rfl hij
        | 8, hij, h => exact h
        | nX + 9, hij, h => exact h
      | 8, hij, hui, hr => exact (show W = W2 from hr) ▸ h
      | nX + 9, hij, hui, hr => exact (show W = W2 from hr) ▸ h
    · intro iX jX v W W2 hij hi hui hr h
      match iX, hij, hui, hr with
      | 0, hij, hui, hr => exact (show W = W2 from hr) ▸ h
      | 1, hij, hui, hr => exact (show W = W2 from hr) ▸ h
      | 2, hij, hui, hr => exact (show W = W2 from hr) ▸ h
      | 3, hij, hui, hr => exact (show W = W2 from hr) ▸ h
      | 4, hij, hui, hr => exact (show W = W2 from hr) ▸ h
      | 5, hij, hui, hr => exact (show W = W2 from hr) ▸ h
      | 6, hij, hui, hr =>
        match jX, hij, h with
        | 0, hij, h => exact h
        | 1, hij, h => exact h
        | 2, hij, h => exact h
        | 3, hij, h => exact h
        | 4, hij, h => exact h
        | 5, hij, h => exact h
        | 6, hij, h => exact absurd rfl hij
        | 7, hij, h => exact ⟨h.1, da_below h.2 hr⟩
        | 8, hij, h => exact h
        | nX + 9, hij, h => exact h
      | 7, hij, hui, hr =>
        match jX, hij, h with
        | 0, hij, h => exact h
        | 1, hij, h => exact h
        | 2, hij, h => exact h
        | 3, hij, h => exact h
        | 4, hij, h => exact h
        | 5, hij, h => exact h
        | 6, hij, h => exact (by obtain ⟨gq, h1, h2⟩ := h; exact ⟨gq, h1, keep_row h2 hr.2⟩)
        | 7, hij, h => exact absurd rfl hij
        | 8, hij, h => exact h
        | nX + 9, hij, h => exact h
      | 8, hij, hui, hr => exact (show W = W2 from hr) ▸ h
      | nX + 9, hij, hui, hr => exact (show W = W2 from hr) ▸ h
    · intro iX o ho a W hN hi hui h
      match iX, ho, hui with
      | 0, ho, hui =>
        obtain rfl := Option.some.inj (show some _ = some o from ho)
        have e2 : a.eval (.tmp 2) = .pointer (some ⟨Bl, 0, none⟩) := hN.eval 2 (by kernel_rfl)
        have hc := HCl.out W hi.1
        refine fillIn_value (v := .pointer (some ⟨l, 0, none⟩)) hO (by rfl) ho rfl (by rfl) (by clear h hN; have hcst : ∀ v, a.eval (.const v) = v := (fun _ => rfl); have hfun : ∀ f, a.eval (.func f) = .func (.func f) #[] #[] := (fun _ => rfl); generalize a.eval = ρ at *; go_simp) rfl (show W = W from rfl)
      | 1, ho, hui =>
        obtain rfl := Option.some.inj (show some _ = some o from ho)
        have e17 : a.eval (.tmp 17) = .pointer (some ⟨l, 0, none⟩) := h ⟨0, .data⟩ (by simp) rfl
        refine fillIn_value (v := .pointer (some ⟨l, 0, none⟩)) hO (by rfl) ho rfl (by rfl) (by clear h hN; have hcst : ∀ v, a.eval (.const v) = v := (fun _ => rfl); have hfun : ∀ f, a.eval (.func f) = .func (.func f) #[] #[] := (fun _ => rfl); generalize a.eval = ρ at *; go_simp) rfl (show W = W from rfl)
      | 2, ho, hui =>
        obtain rfl := Option.some.inj (show some _ = some o from ho)
        have e18 : a.eval (.tmp 18) = .pointer (some ⟨l, 0, none⟩) := h ⟨1, .data⟩ (by simp) rfl
        refine fillIn_value (v := .pointer (some ⟨l, 0, none⟩)) hO (by rfl) ho rfl (by rfl) (by clear h hN; have hcst : ∀ v, a.eval (.const v) = v := (fun _ => rfl); have hfun : ∀ f, a.eval (.func f) = .func (.func f) #[] #[] := (fun _ => rfl); generalize a.eval = ρ at *; go_simp) rfl (show W = W from rfl)
      | 3, ho, hui =>
        obtain rfl := Option.some.inj (show some _ = some o from ho)
        have e19 : a.eval (.tmp 19) = .pointer (some ⟨l, 0, none⟩) := h ⟨2, .data⟩ (by simp) rfl
        have hc := HCg.out W hi.1
        refine fillIn_value (v := .pointer (some ⟨g, 0, none⟩)) hO (by rfl) ho rfl (by rfl) (by clear h hN; have hcst : ∀ v, a.eval (.const v) = v := (fun _ => rfl); have hfun : ∀ f, a.eval (.func f) = .func (.func f) #[] #[] := (fun _ => rfl); generalize a.eval = ρ at *; go_simp) rfl (show W = W from rfl)
      | 4, ho, hui =>
        obtain rfl := Option.some.inj (show some _ = some o from ho)
        have e5 : a.eval (.tmp 5) = .pointer (some ⟨Bx, 0, none⟩) := hN.eval 5 (by kernel_rfl)
        have hc := HCx.out W hi.1
        refine fillIn_value (v := .int .i64 (qm : Int)) hO (by rfl) ho rfl (by rfl) (by clear h hN; have hcst : ∀ v, a.eval (.const v) = v := (fun _ => rfl); have hfun : ∀ f, a.eval (.func f) = .func (.func f) #[] #[] := (fun _ => rfl); generalize a.eval = ρ at *; go_simp) rfl (show W = W from rfl)
      | 5, ho, hui =>
        obtain rfl := Option.some.inj (show some _ = some o from ho)
        have e6 : a.eval (.tmp 6) = .slice (some ⟨gb, ob + 511 * x, none⟩) (qOf len x) (qOf len x) := hN.eval 6 (by kernel_rfl)
        refine fillIn_value (v := .slice (some ⟨gb, ob + 511 * x, none⟩) (qOf len x) (qOf len x)) hO (by rfl) ho rfl (by rfl) (by clear h hN; have hcst : ∀ v, a.eval (.const v) = v := (fun _ => rfl); have hfun : ∀ f, a.eval (.func f) = .func (.func f) #[] #[] := (fun _ => rfl); generalize a.eval = ρ at *; go_simp) rfl (show W = W from rfl)
      | 6, ho, hui =>
        obtain rfl := Option.some.inj (show some _ = some o from ho)
        have e22 : a.eval (.tmp 22) = .slice (some ⟨gb, ob + 511 * x, none⟩) (qOf len x) (qOf len x) := h ⟨5, .data⟩ (by simp) rfl
        refine fillIn_enter (f := 55) (args := #[.slice (some ⟨gb, ob + 511 * x, none⟩) (qOf len x) (qOf len x)]) hO (by rfl) ho rfl (by rfl) (by clear h hN; have hcst : ∀ v, a.eval (.const v) = v := (fun _ => rfl); have hfun : ∀ f, a.eval (.func f) = .func (.func f) #[] #[] := (fun _ => rfl); generalize a.eval = ρ at *; go_simp) (HPt.out W hi) ?_
        rintro e w2 ⟨gq, rfl, h5, h6⟩
        exact ⟨_, rfl, ⟨_, rfl, h5⟩, h6⟩
      | 7, ho, hui =>
        obtain rfl := Option.some.inj (show some _ = some o from ho)
        have e20 : a.eval (.tmp 20) = .pointer (some ⟨g, 0, none⟩) := h ⟨3, .data⟩ (by simp) rfl
        have e21 : a.eval (.tmp 21) = .int .i64 (qm : Int) := h ⟨4, .data⟩ (by simp) rfl
        obtain ⟨gq, e23, p23⟩ : ∃ gq, a.eval (.tmp 23) = .slice (some ⟨gq, 0, none⟩) 512 512 ∧ SecRow W gq (partL (chunk b x)) := h ⟨6, .data⟩ (by simp) rfl
        refine fillIn_enter (f := 27) (args := #[.pointer (some ⟨g, 0, none⟩), .int .i64 (qm : Int), .slice (some ⟨gq, 0, none⟩) 512 512]) hO (by rfl) ho rfl (by rfl) (by clear h hN; have hcst : ∀ v, a.eval (.const v) = v := (fun _ => rfl); have hfun : ∀ f, a.eval (.func f) = .func (.func f) #[] #[] := (fun _ => rfl); generalize a.eval = ρ at *; go_simp) (HWr.out W gq hui p23) ?_
        rintro e w2 ⟨rfl, h5, h6, h7⟩
        exact ⟨_, rfl, ⟨rfl, h5⟩, ⟨h6, h7⟩⟩
      | 8, ho, hui =>
        obtain rfl := Option.some.inj (show some _ = some o from ho)
        obtain ⟨e24, p24⟩ : a.eval (.tmp 24) = .int .i64 ev ∧ Da B W g L s1 (k + m + 1) := h ⟨7, .data⟩ (by simp) rfl
        refine fillIn_value (v := .int .i64 ev) hO (by rfl) ho rfl (by rfl) (by clear h hN; have hcst : ∀ v, a.eval (.const v) = v := (fun _ => rfl); have hfun : ∀ f, a.eval (.func f) = .func (.func f) #[] #[] := (fun _ => rfl); generalize a.eval = ρ at *; go_simp) rfl (show W = W from rfl)
      | nX + 9, ho, hui => exact absurd ho (by simp)
    · intro vals W hi h
      have u0 : vals 0 = .pointer (some ⟨l, 0, none⟩) := h 0 (by decide)
      have u1 : vals 1 = .pointer (some ⟨l, 0, none⟩) := h 1 (by decide)
      have u2 : vals 2 = .pointer (some ⟨l, 0, none⟩) := h 2 (by decide)
      have u3 : vals 3 = .pointer (some ⟨g, 0, none⟩) := h 3 (by decide)
      have u4 : vals 4 = .int .i64 (qm : Int) := h 4 (by decide)
      have u5 : vals 5 = .slice (some ⟨gb, ob + 511 * x, none⟩) (qOf len x) (qOf len x) := h 5 (by decide)
      obtain ⟨gq, u6, p6⟩ : ∃ gq, vals 6 = .slice (some ⟨gq, 0, none⟩) 512 512 ∧ SecRow W gq (partL (chunk b x)) := h 6 (by decide)
      obtain ⟨u7, p7⟩ : vals 7 = .int .i64 ev ∧ Da B W g L s1 (k + m + 1) := h 7 (by decide)
      have u8 : vals 8 = .int .i64 ev := h 8 (by decide)
      generalize hA : fill _ _ _ _ = A
      have hA2 : (Act.put (Act.put (Act.put (Act.put (Act.put (Act.put (Act.put (Act.put (Act.put (_ : Act) (some 17) (vals 0)) (some 18) (vals 1)) (some 19) (vals 2)) (some 20) (vals 3)) (some 21) (vals 4)) (some 22) (vals 5)) (some 23) (vals 6)) (some 24) (vals 7)) (some 7) (vals 8)) = A := hA
      clear hA h V R U
      rw [u0, u1, u2, u3, u4, u5, u6, u7, u8] at hA2
      simp only [fill, Act.put, List.setIfInBounds_toArray, List.set_cons_succ, List.set_cons_zero] at hA2
      subst hA2
      clear u0 u1 u2 u3 u4 u5 u6 u7 u8
      have HDq := Lib.hid p7
      have HKq := Lib.hid hi.1
      have HBq := Lib.hid hi.2
      clear p6 p7 hi HCl HCx HCg HPt HWr
      obtain ⟨V2, hV2⟩ : ∃ V2, V2 = W := ⟨_, rfl⟩
      subst hV2
      cases ok1 with
      | true =>
        obtain rfl : (0 : Int) = ev := hev
        gi_wp2
        refine ⟨HKO.out.trans (KeepsOthers.of_keep HBq.out.size HKq.out), HKC.out.trans (KeepC.of_keep HKq.out), ⟨⟨s1, ?_, ?_⟩, ?_, ?_, ?_⟩⟩
        · rw [wrs_snoc, acts_append_ok _ _ (HAc.out trivial), HM.out trivial, acts_cons_ok (HR1.out trivial)]; rfl
        · rw [List.length_append, HM.out trivial]; exact HDq.out
        · rw [List.length_append, HM.out trivial]
          have h9 := HKq.out.cells HX1.out notTI
          have h8 := HPM.out
          rw [show p + (m + [x].length) = qm by simp; omega]
          exact h9
        · exact HE1.out.trans (KeepE.of_keep HKq.out)
        · exact HB1h.out.trans HBq.out
      | false =>
        obtain rfl : (8 : Int) = ev := hev
        have hbr := HKq.out.cells (HE1.out.cells (by have := HOrd.out; omega) Z2.out notTE) notTE
        have hcr := box_cell hbr
        have hfr := frozen_row hbr 0
        have HBR := Lib.hid hbr
        clear hbr
        gi_wp2
        refine ⟨(HKO.out.trans (KeepsOthers.of_keep HBq.out.size HKq.out)).trans (KeepsOthers.setCell _ _ _), rfl, ⟨s1, ?_, ?_⟩, set_own HBR.out _, ?_, ?_⟩
        · rw [wrs_snoc, acts_append_ok _ _ (HAc.out trivial), HM.out trivial, acts_cons_no (HR1.out trivial)]
        · rw [List.length_append, HM.out trivial]; exact da_only HDq.out (only_set0 _ Br _) ⟨_, _, _, HBR.out, notTE⟩
        · exact keep_set (HK1.out.trans HKq.out) (by have := HOrd.out; omega) _
        · exact (HB1h.out.trans HBq.out).setCell (p := ⟨Br, 0, none⟩) (show B ≤ Br by have := HOrd.out; have := HBW.out; omega) _
  case done =>
    rintro D ys W hDD rfl ⟨⟨sj, hac, hD⟩, hnx, hke, hbl⟩ hK
    rw [List.length_range] at hD hnx
    have hr2 := Hr.out
    unfold recActs at hr2
    rw [HBL.out trivial, acts_append_ok _ _ hac] at hr2
    clear z3 z4 z5
    have hord := HOrd.out
    have hl1 := hke.cells (by omega) Z1.out notTP
    have he1 := hke.cells (by omega) Z2.out notTE
    have HL1 := Lib.hid hl1
    have HE1 := Lib.hid he1
    have hK1 : KeepT g w W := keep_after hK0.out hke (by omega)
    have HK1 := Lib.hid hK1
    have HB1 := Lib.hid hbl
    have hsz1 : B ≤ W.heap.size := (da_lt hD).2.2
    have HKD := Lib.hid hK
    have hDlt := (Array.getElem?_eq_some_iff.1 hK).1
    have hRlt := (Array.getElem?_eq_some_iff.1 he1).1
    have hDR : D ≠ Br := by
      have := HZ0.out
      omega
    have HD1 := Lib.hid hD
    have hO := openF_wide
    clear hac hD hnx hke hbl hl1 he1 hK1 hK
    have hne1 : Bl ≠ Br := by omega
    have hne2 : l ≠ Br := by have := HLt.out; omega
    have HDD := Lib.hid hDD
    have HBrw : w.heap.size ≤ Br := by omega
    clear hord hDD hDlt hRlt
    have HCl := Lib.hid (fun V (hv : KeepE g Br W V) => box_cell (hv.cells hne1 HL1.out notTP))
    have HCg := Lib.hid (fun V (hv : KeepE g Br W V) => log_cells (hv.cells hne2 (log_keep HLg.out HK1.out) notTL))
    have HTb := Lib.hid (fun V (hv : Below B w V) => tab_keep hG ht.out hv)
    have HRw := Lib.hid (row8_keep HS.out HK1.out HB1.out)
    obtain ⟨ev, hev⟩ : ∃ ev : Int, (if ok = true then (0 : Int) else 8) = ev := ⟨_, rfl⟩
    obtain ⟨cs, hcs⟩ : ∃ cs, Fc.crcOf b = cs := ⟨_, rfl⟩
    have hcl := crc_lt b
    rw [hcs] at hcl hr2
    have hwc : IntKind.i64.wrap ((cs : Nat) : Int) = (cs : Int) := by rw [IntKind.wrap_i64]; omega
    have HFs := Lib.hid (fun V (hV : Hid (Fc.Tab V)) => firstS_any ag nr (len : Int) (cs : Int) hag hnr (by constructor <;> omega) (by constructor <;> omega) V hV)
    have HWb : Hid (∀ V gf, Da B V g L sj (k + nparts len) → SecRow V gf (firstL ag nr (len : Int) (cs : Int)) → Calls Tryd.prog 48 #[.pointer (some ⟨g, 0, none⟩), .int .i64 (p : Int), .slice (some ⟨gf, 0, none⟩) 512 512] V fun e w' => e = .returned (.int .i64 ev) ∧ Da B w' g L s' (k + nparts len + 3) ∧ Below B V w' ∧ KeepT g V w') := Lib.hid fun V gf hV hq => by
      refine (wbA hV (by omega) (p : Int) p rfl (by omega) gf _ hq (first_len ag nr (len : Int) (cs : Int) hag hnr (by constructor <;> omega) (by constructor <;> omega)) s' ok hr2).mono ?_
      rintro e w' ⟨h1 | h1, h2⟩
      · refine ⟨?_, h2⟩
        rw [h1.2, ← hev, if_pos h1.1]
      · refine ⟨?_, h2⟩
        rw [h1.2, ← hev, h1.1]; rfl
    have HSm : Hid (∀ V gs, KeepE g Br W V → Below B w V → V.heap[gs]? = some (.cells #[.slice sp len cap] 34 (0, 0)) → Calls Tryd.prog 57 #[.slice (some ⟨gs, 0, none⟩) 1 1] V fun e w' => e = .returned (.int .u32 ((cs : Nat) : Int)) ∧ V = w') := Lib.hid fun V gs hv hb hc => by
      have hrow : Row8 B V sp b := row8_same HRw.out fun g0 hor x hx => by
        rcases hor with ⟨cs0, fr0, hh⟩ | hh
        · have hne : g0 ≠ Br := fun e2 => by
            rw [e2, HE1.out] at hh
            exact absurd hh (by simp)
          rw [hx] at hh
          cases hh
          exact hv.cells hne hx notT8
        · rw [hb.block g0 hh, ← HB1.out.block g0 hh]; exact hx
      have := sum_slice V gs cap len sp b (HBL.out trivial) (by omega) HBB.out (Lib.hid (HTb.out V hb)) (box_cell hc) hrow.src
      rw [hcs] at this
      exact this
    clear hr2 hcs
    gi_wp2
    let U : Nat → World → Prop := fun jX W => match jX with | 0 => True | 1 => True | 2 => True | 3 => True | 4 => True | 5 => True | 6 => True | 7 => True | 8 => True | 9 => True | 10 => True | 11 => True | 12 => True | 13 => True | 14 => True | 15 => True | 16 => True | 17 => True | 18 => True | 19 => True | 20 => True | 21 => True | 22 => True | 23 => Da B W g L sj (k + nparts len) | 24 => W.heap[Br]? = some (.cells #[.int .i64 0] 24 (0, 0)) ∧ w.heap.size ≤ Br | _ => True
    let R : Nat → World → World → Prop := fun jX W W2 => match jX with | 0 => W = W2 | 1 => W = W2 | 2 => W = W2 | 3 => W = W2 | 4 => W = W2 | 5 => W = W2 | 6 => W = W2 | 7 => W = W2 | 8 => W = W2 | 9 => W = W2 | 10 => W = W2 | 11 => W = W2 | 12 => W = W2 | 13 => W = W2 | 14 => W = W2 | 15 => W = W2 | 16 => W = W2 | 17 => W = W2 | 18 => W = W2 | 19 => Below W.heap.size W W2 | 20 => W = W2 | 21 => W = W2 | 22 => Below W.heap.size W W2 | 23 => Below B W W2 ∧ KeepT g W W2 | 24 => W2 = W.setCell ⟨Br, 0, none⟩ (.int .i64 ev) ∧ w.heap.size ≤ Br | _ => W = W2
    let V : Nat → Value → World → Prop := fun jX v W => match jX with | 0 => v = .pointer (some ⟨l, 0, none⟩) | 1 => v = .pointer (some ⟨l, 0, none⟩) | 2 => v = .pointer (some ⟨l, 0, none⟩) | 3 => v = .pointer (some ⟨g, 0, none⟩) | 4 => v = .pointer (some ⟨l, 0, none⟩) | 5 => v = .pointer (some ⟨l, 0, none⟩) | 6 => v = .pointer (some ⟨l, 3, none⟩) | 7 => v = .int .i64 (p : Int) | 8 => v = .pointer (some ⟨l, 0, none⟩) | 9 => v = .pointer (some ⟨l, 0, none⟩) | 10 => v = .pointer (some ⟨l, 5, none⟩) | 11 => v = .int .i64 ag | 12 => v = .pointer (some ⟨l, 0, none⟩) | 13 => v = .pointer (some ⟨l, 0, none⟩) | 14 => v = .pointer (some ⟨l, 4, none⟩) | 15 => v = .int .i64 nr | 16 => v = .slice sp len cap | 17 => v = .int .i64 (len : Int) | 18 => v = .slice sp len cap | 19 => ∃ gs, v = .slice (some ⟨gs, 0, none⟩) 1 1 ∧ W.heap[gs]? = some (.cells #[.slice sp len cap] 34 (0, 0)) | 20 => v = .int .u32 ((cs : Nat) : Int) | 21 => v = .int .i64 ((cs : Nat) : Int) | 22 => ∃ gf, v = .slice (some ⟨gf, 0, none⟩) 512 512 ∧ SecRow W gf (firstL ag nr (len : Int) (cs : Int)) | 23 => v = .int .i64 ev ∧ Da B W g L s' (k + nparts len + 3) | 24 => v = undef ∧ W.heap[Br]? = some (.cells #[.int .i64 ev] 24 (0, 0)) | _ => True
    refine wpIn_region_fill3 (by kernel_rfl) U V (fun V => KeepE g Br W V ∧ Below B w V) R (by kernel_rfl) (by kernel_rfl) (⟨KeepE.of_keep (KeepT.of_below (g := g) ((Below.refl _ _).drew)), HB1.out.trans ((Below.refl _ _).drew)⟩) ?_ ?_ ?_ ?_ ?_ ?_
    · intro jX
      match jX with
      | 0 => exact trivial
      | 1 => exact trivial
      | 2 => exact trivial
      | 3 => exact trivial
      | 4 => exact trivial
      | 5 => exact trivial
      | 6 => exact trivial
      | 7 => exact trivial
      | 8 => exact trivial
      | 9 => exact trivial
      | 10 => exact trivial
      | 11 => exact trivial
      | 12 => exact trivial
      | 13 => exact trivial
      | 14 => exact trivial
      | 15 => exact trivial
      | 16 => exact trivial
      | 17 => exact trivial
      | 18 => exact trivial
      | 19 => exact trivial
      | 20 => exact trivial
      | 21 => exact trivial
      | 22 => exact trivial
      | 23 => exact da_below HD1.out ((Below.refl _ _).drew)
      | 24 => exact ⟨HE1.out, HBrw⟩
      | nX + 25 => exact trivial
    · intro iX W W2 hr hi
      match iX, hr with
      | 0, hr => exact (show W = W2 from hr) ▸ hi
      | 1, hr => exact (show W = W2 from hr) ▸ hi
      | 2, hr => exact (show W = W2 from hr) ▸ hi
      | 3, hr => exact (show W = W2 from hr) ▸ hi
      | 4, hr => exact (show W = W2 from hr) ▸ hi
      | 5, hr => exact (show W = W2 from hr) ▸ hi
      | 6, hr => exact (show W = W2 from hr) ▸ hi
      | 7, hr => exact (show W = W2 from hr) ▸ hi
      | 8, hr => exact (show W = W2 from hr) ▸ hi
      | 9, hr => exact (show W = W2 from hr) ▸ hi
      | 10, hr => exact (show W = W2 from hr) ▸ hi
      | 11, hr => exact (show W = W2 from hr) ▸ hi
      | 12, hr => exact (show W = W2 from hr) ▸ hi
      | 13, hr => exact (show W = W2 from hr) ▸ hi
      | 14, hr => exact (show W = W2 from hr) ▸ hi
      | 15, hr => exact (show W = W2 from hr) ▸ hi
      | 16, hr => exact (show W = W2 from hr) ▸ hi
      | 17, hr => exact (show W = W2 from hr) ▸ hi
      | 18, hr => exact (show W = W2 from hr) ▸ hi
      | 19, hr => exact ⟨hi.1.trans (KeepE.of_keep (KeepT.of_below (g := g) hr)), (hi.2.trans (hr.mono (Nat.le_trans HBW.out hi.2.size)))⟩
      | 20, hr => exact (show W = W2 from hr) ▸ hi
      | 21, hr => exact (show W = W2 from hr) ▸ hi
      | 22, hr => exact ⟨hi.1.trans (KeepE.of_keep (KeepT.of_below (g := g) hr)), (hi.2.trans (hr.mono (Nat.le_trans HBW.out hi.2.size)))⟩
      | 23, hr => exact ⟨hi.1.trans (KeepE.of_keep hr.2), hi.2.trans hr.1⟩
      | 24, hr => exact (by obtain ⟨rfl, hz⟩ := hr; exact ⟨hi.1.set _, hi.2.setCell (p := ⟨Br, 0, none⟩) (Nat.le_trans HBW.out hz) _⟩)
      | nX + 25, hr => exact (show W = W2 from hr) ▸ hi
    · intro iX jX W W2 hij hord hi hui hr h
      match iX, hij, hord, hui, hr with
      | 0, hij, hord, hui, hr => exact (show W = W2 from hr) ▸ h
      | 1, hij, hord, hui, hr => exact (show W = W2 from hr) ▸ h
      | 2, hij, hord, hui, hr => exact (show W = W2 from hr) ▸ h
      | 3, hij, hord, hui, hr => exact (show W = W2 from hr) ▸ h
      | 4, hij, hord, hui, hr => exact (show W = W2 from hr) ▸ h
      | 5, hij, hord, hui, hr => exact (show W = W2 from hr) ▸ h
      | 6, hij, hord, hui, hr => exact (show W = W2 from hr) ▸ h
      | 7, hij, hord, hui, hr => exact (show W = W2 from hr) ▸ h
      | 8, hij, hord, hui, hr => exact (show W = W2 from hr) ▸ h
      | 9, hij, hord, hui, hr => exact (show W = W2 from hr) ▸ h
      | 10, hij, hord, hui, hr => exact (show W = W2 from hr) ▸ h
      | 11, hij, hord, hui, hr => exact (show W = W2 from hr) ▸ h
      | 12, hij, hord, hui, hr => exact (show W = W2 from hr) ▸ h
      | 13, hij, hord, hui, hr => exact (show W = W2 from hr) ▸ h
      | 14, hij, hord, hui, hr => exact (show W = W2 from hr) ▸ h
      | 15, hij, hord, hui, hr => exact (show W = W2 from hr) ▸ h
      | 16, hij, hord, hui, hr => exact (show W = W2 from hr) ▸ h
      | 17, hij, hord, hui, hr => exact (show W = W2 from hr) ▸ h
      | 18, hij, hord, hui, hr => exact (show W = W2 from hr) ▸ h
      | 19, hij, hord, hui, hr =>
        match jX, hij, hord, h with
        | 0, hij, hord, h => exact h
        | 1, hij, hord, h => exact h
        | 2, hij, hord, h => exact h
        | 3, hij, hord, h => exact h
        | 4, hij, hord, h => exact h
        | 5, hij, hord, h => exact h
        | 6, hij, hord, h => exact h
        | 7, hij, hord, h => exact h
        | 8, hij, hord, h => exact h
        | 9, hij, hord, h => exact h
        | 10, hij, hord, h => exact h
        | 11, hij, hord, h => exact h
        | 12, hij, hord, h => exact h
        | 13, hij, hord, h => exact h
        | 14, hij, hord, h => exact h
        | 15, hij, hord, h => exact h
        | 16, hij, hord, h => exact h
        | 17, hij, hord, h => exact h
        | 18, hij, hord, h => exact h
        | 19, hij, hord, h => exact absurd rfl hij
        | 20, hij, hord, h => exact h
        | 21, hij, hord, h => exact h
        | 22, hij, hord, h => exact h
        | 23, hij, hord, h => exact da_below h hr
        | 24, hij, hord, h => exact ⟨(KeepT.of_below (g := g) hr).cells h.1 notTE, h.2⟩
        | nX + 25, hij, hord, h => exact h
      | 20, hij, hord, hui, hr => exact (show W = W2 from hr) ▸ h
      | 21, hij, hord, hui, hr => exact (show W = W2 from hr) ▸ h
      | 22, hij, hord, hui, hr =>
        match jX, hij, hord, h with
        | 0, hij, hord, h => exact h
        | 1, hij, hord, h => exact h
        | 2, hij, hord, h => exact h
        | 3, hij, hord, h => exact h
        | 4, hij, hord, h => exact h
        | 5, hij, hord, h => exact h
        | 6, hij, hord, h => exact h
        | 7, hij, hord, h => exact h
        | 8, hij, hord, h => exact h
        | 9, hij, hord, h => exact h
        | 10, hij, hord, h => exact h
        | 11, hij, hord, h => exact h
        | 12, hij, hord, h => exact h
        | 13, hij, hord, h => exact h
        | 14, hij, hord, h => exact h
        | 15, hij, hord, h => exact h
        | 16, hij, hord, h => exact h
        | 17, hij, hord, h => exact h
        | 18, hij, hord, h => exact h
        | 19, hij, hord, h => exact h
        | 20, hij, hord, h => exact h
        | 21, hij, hord, h => exact h
        | 22, hij, hord, h => exact absurd rfl hij
        | 23, hij, hord, h => exact da_below h hr
        | 24, hij, hord, h => exact ⟨(KeepT.of_below (g := g) hr).cells h.1 notTE, h.2⟩
        | nX + 25, hij, hord, h => exact h
      | 23, hij, hord, hui, hr =>
        match jX, hij, hord, h with
        | 0, hij, hord, h => exact h
        | 1, hij, hord, h => exact h
        | 2, hij, hord, h => exact h
        | 3, hij, hord, h => exact h
        | 4, hij, hord, h => exact h
        | 5, hij, hord, h => exact h
        | 6, hij, hord, h => exact h
        | 7, hij, hord, h => exact h
        | 8, hij, hord, h => exact h
        | 9, hij, hord, h => exact h
        | 10, hij, hord, h => exact h
        | 11, hij, hord, h => exact h
        | 12, hij, hord, h => exact h
        | 13, hij, hord, h => exact h
        | 14, hij, hord, h => exact h
        | 15, hij, hord, h => exact h
        | 16, hij, hord, h => exact h
        | 17, hij, hord, h => exact h
        | 18, hij, hord, h => exact h
        | 19, hij, hord, h => exact h
        | 20, hij, hord, h => exact h
        | 21, hij, hord, h => exact h
        | 22, hij, hord, h => exact h
        | 23, hij, hord, h => exact absurd rfl hij
        | 24, hij, hord, h => exact ⟨hr.2.cells h.1 notTE, h.2⟩
        | nX + 25, hij, hord, h => exact h
      | 24, hij, hord, hui, hr =>
        match jX, hij, hord, h with
        | 0, hij, hord, h => exact h
        | 1, hij, hord, h => exact h
        | 2, hij, hord, h => exact h
        | 3, hij, hord, h => exact h
        | 4, hij, hord, h => exact h
        | 5, hij, hord, h => exact h
        | 6, hij, hord, h => exact h
        | 7, hij, hord, h => exact h
        | 8, hij, hord, h => exact h
        | 9, hij, hord, h => exact h
        | 10, hij, hord, h => exact h
        | 11, hij, hord, h => exact h
        | 12, hij, hord, h => exact h
        | 13, hij, hord, h => exact h
        | 14, hij, hord, h => exact h
        | 15, hij, hord, h => exact h
        | 16, hij, hord, h => exact h
        | 17, hij, hord, h => exact h
        | 18, hij, hord, h => exact h
        | 19, hij, hord, h => exact h
        | 20, hij, hord, h => exact h
        | 21, hij, hord, h => exact h
        | 22, hij, hord, h => exact h
        | 23, hij, hord, h => exact absurd rfl (hord _ rfl ⟨23, .data⟩ (by simp) rfl)
        | 24, hij, hord, h => exact absurd rfl hij
        | nX + 25, hij, hord, h => exact h
      | nX + 25, hij, hord, hui, hr => exact (show W = W2 from hr) ▸ h
    · intro iX jX v W W2 hij hi hui hr h
      match iX, hij, hui, hr with
      | 0, hij, hui, hr => exact (show W = W2 from hr) ▸ h
      | 1, hij, hui, hr => exact (show W = W2 from hr) ▸ h
      | 2, hij, hui, hr => exact (show W = W2 from hr) ▸ h
      | 3, hij, hui, hr => exact (show W = W2 from hr) ▸ h
      | 4, hij, hui, hr => exact (show W = W2 from hr) ▸ h
      | 5, hij, hui, hr => exact (show W = W2 from hr) ▸ h
      | 6, hij, hui, hr => exact (show W = W2 from hr) ▸ h
      | 7, hij, hui, hr => exact (show W = W2 from hr) ▸ h
      | 8, hij, hui, hr => exact (show W = W2 from hr) ▸ h
      | 9, hij, hui, hr => exact (show W = W2 from hr) ▸ h
      | 10, hij, hui, hr => exact (show W = W2 from hr) ▸ h
      | 11, hij, hui, hr => exact (show W = W2 from hr) ▸ h
      | 12, hij, hui, hr => exact (show W = W2 from hr) ▸ h
      | 13, hij, hui, hr => exact (show W = W2 from hr) ▸ h
      | 14, hij, hui, hr => exact (show W = W2 from hr) ▸ h
      | 15, hij, hui, hr => exact (show W = W2 from hr) ▸ h
      | 16, hij, hui, hr => exact (show W = W2 from hr) ▸ h
      | 17, hij, hui, hr => exact (show W = W2 from hr) ▸ h
      | 18, hij, hui, hr => exact (show W = W2 from hr) ▸ h
      | 19, hij, hui, hr =>
        match jX, hij, h with
        | 0, hij, h => exact h
        | 1, hij, h => exact h
        | 2, hij, h => exact h
        | 3, hij, h => exact h
        | 4, hij, h => exact h
        | 5, hij, h => exact h
        | 6, hij, h => exact h
        | 7, hij, h => exact h
        | 8, hij, h => exact h
        | 9, hij, h => exact h
        | 10, hij, h => exact h
        | 11, hij, h => exact h
        | 12, hij, h => exact h
        | 13, hij, h => exact h
        | 14, hij, h => exact h
        | 15, hij, h => exact h
        | 16, hij, h => exact h
        | 17, hij, h => exact h
        | 18, hij, h => exact h
        | 19, hij, h => exact absurd rfl hij
        | 20, hij, h => exact h
        | 21, hij, h => exact h
        | 22, hij, h => exact (by obtain ⟨gf, h1, h2⟩ := h; exact ⟨gf, h1, keep_row h2 (KeepT.of_below (g := g) hr)⟩)
        | 23, hij, h => exact ⟨h.1, da_below h.2 hr⟩
        | 24, hij, h => exact ⟨h.1, (KeepT.of_below (g := g) hr).cells h.2 notTE⟩
        | nX + 25, hij, h => exact h
      | 20, hij, hui, hr => exact (show W = W2 from hr) ▸ h
      | 21, hij, hui, hr => exact (show W = W2 from hr) ▸ h
      | 22, hij, hui, hr =>
        match jX, hij, h with
        | 0, hij, h => exact h
        | 1, hij, h => exact h
        | 2, hij, h => exact h
        | 3, hij, h => exact h
        | 4, hij, h => exact h
        | 5, hij, h => exact h
        | 6, hij, h => exact h
        | 7, hij, h => exact h
        | 8, hij, h => exact h
        | 9, hij, h => exact h
        | 10, hij, h => exact h
        | 11, hij, h => exact h
        | 12, hij, h => exact h
        | 13, hij, h => exact h
        | 14, hij, h => exact h
        | 15, hij, h => exact h
        | 16, hij, h => exact h
        | 17, hij, h => exact h
        | 18, hij, h => exact h
        | 19, hij, h => exact (by obtain ⟨gs, h1, h2⟩ := h; exact ⟨gs, h1, (KeepT.of_below (g := g) hr).cells h2 notTB⟩)
        | 20, hij, h => exact h
        | 21, hij, h => exact h
        | 22, hij, h => exact absurd rfl hij
        | 23, hij, h => exact ⟨h.1, da_below h.2 hr⟩
        | 24, hij, h => exact ⟨h.1, (KeepT.of_below (g := g) hr).cells h.2 notTE⟩
        | nX + 25, hij, h => exact h
      | 23, hij, hui, hr =>
        match jX, hij, h with
        | 0, hij, h => exact h
        | 1, hij, h => exact h
        | 2, hij, h => exact h
        | 3, hij, h => exact h
        | 4, hij, h => exact h
        | 5, hij, h => exact h
        | 6, hij, h => exact h
        | 7, hij, h => exact h
        | 8, hij, h => exact h
        | 9, hij, h => exact h
        | 10, hij, h => exact h
        | 11, hij, h => exact h
        | 12, hij, h => exact h
        | 13, hij, h => exact h
        | 14, hij, h => exact h
        | 15, hij, h => exact h
        | 16, hij, h => exact h
        | 17, hij, h => exact h
        | 18, hij, h => exact h
        | 19, hij, h => exact (by obtain ⟨gs, h1, h2⟩ := h; exact ⟨gs, h1, hr.2.cells h2 notTB⟩)
        | 20, hij, h => exact h
        | 21, hij, h => exact h
        | 22, hij, h => exact (by obtain ⟨gf, h1, h2⟩ := h; exact ⟨gf, h1, keep_row h2 hr.2⟩)
        | 23, hij, h => exact absurd rfl hij
        | 24, hij, h => exact ⟨h.1, hr.2.cells h.2 notTE⟩
        | nX + 25, hij, h => exact h
      | 24, hij, hui, hr =>
        match jX, hij, h with
        | 0, hij, h => exact h
        | 1, hij, h => exact h
        | 2, hij, h => exact h
        | 3, hij, h => exact h
        | 4, hij, h => exact h
        | 5, hij, h => exact h
        | 6, hij, h => exact h
        | 7, hij, h => exact h
        | 8, hij, h => exact h
        | 9, hij, h => exact h
        | 10, hij, h => exact h
        | 11, hij, h => exact h
        | 12, hij, h => exact h
        | 13, hij, h => exact h
        | 14, hij, h => exact h
        | 15, hij, h => exact h
        | 16, hij, h => exact h
        | 17, hij, h => exact h
        | 18, hij, h => exact h
        | 19, hij, h => exact (by obtain ⟨gs, h1, h2⟩ := h; obtain ⟨rfl, _⟩ := hr; exact ⟨gs, h1, set_keep hui.1 h2 (by decide) _⟩)
        | 20, hij, h => exact h
        | 21, hij, h => exact h
        | 22, hij, h => exact (by obtain ⟨gf, h1, h2⟩ := h; obtain ⟨rfl, _⟩ := hr; exact ⟨gf, h1, set_keep hui.1 h2 (by decide) _⟩)
        | 23, hij, h => exact (by obtain ⟨rfl, _⟩ := hr; exact ⟨h.1, da_only h.2 (only_set0 _ Br _) ⟨_, _, _, hui.1, notTE⟩⟩)
        | 24, hij, h => exact absurd rfl hij
        | nX + 25, hij, h => exact h
      | nX + 25, hij, hui, hr => exact (show W = W2 from hr) ▸ h
    · intro iX o ho a W hN hi hui h
      match iX, ho, hui with
      | 0, ho, hui =>
        obtain rfl := Option.some.inj (show some _ = some o from ho)
        have e2 : a.eval (.tmp 2) = .pointer (some ⟨Bl, 0, none⟩) := hN.eval 2 (by kernel_rfl)
        have hc := HCl.out W hi.1
        refine fillIn_value (v := .pointer (some ⟨l, 0, none⟩)) hO (by rfl) ho rfl (by rfl) (by clear h hN; have hcst : ∀ v, a.eval (.const v) = v := (fun _ => rfl); have hfun : ∀ f, a.eval (.func f) = .func (.func f) #[] #[] := (fun _ => rfl); generalize a.eval = ρ at *; go_simp) rfl (show W = W from rfl)
      | 1, ho, hui =>
        obtain rfl := Option.some.inj (show some _ = some o from ho)
        have e28 : a.eval (.tmp 28) = .pointer (some ⟨l, 0, none⟩) := h ⟨0, .data⟩ (by simp) rfl
        refine fillIn_value (v := .pointer (some ⟨l, 0, none⟩)) hO (by rfl) ho rfl (by rfl) (by clear h hN; have hcst : ∀ v, a.eval (.const v) = v := (fun _ => rfl); have hfun : ∀ f, a.eval (.func f) = .func (.func f) #[] #[] := (fun _ => rfl); generalize a.eval = ρ at *; go_simp) rfl (show W = W from rfl)
      | 2, ho, hui =>
        obtain rfl := Option.some.inj (show some _ = some o from ho)
        have e29 : a.eval (.tmp 29) = .pointer (some ⟨l, 0, none⟩) := h ⟨1, .data⟩ (by simp) rfl
        refine fillIn_value (v := .pointer (some ⟨l, 0, none⟩)) hO (by rfl) ho rfl (by rfl) (by clear h hN; have hcst : ∀ v, a.eval (.const v) = v := (fun _ => rfl); have hfun : ∀ f, a.eval (.func f) = .func (.func f) #[] #[] := (fun _ => rfl); generalize a.eval = ρ at *; go_simp) rfl (show W = W from rfl)
      | 3, ho, hui =>
        obtain rfl := Option.some.inj (show some _ = some o from ho)
        have e30 : a.eval (.tmp 30) = .pointer (some ⟨l, 0, none⟩) := h ⟨2, .data⟩ (by simp) rfl
        have hc := (HCg.out W hi.1).1
        refine fillIn_value (v := .pointer (some ⟨g, 0, none⟩)) hO (by rfl) ho rfl (by rfl) (by clear h hN; have hcst : ∀ v, a.eval (.const v) = v := (fun _ => rfl); have hfun : ∀ f, a.eval (.func f) = .func (.func f) #[] #[] := (fun _ => rfl); generalize a.eval = ρ at *; go_simp) rfl (show W = W from rfl)
      | 4, ho, hui =>
        obtain rfl := Option.some.inj (show some _ = some o from ho)
        have e2 : a.eval (.tmp 2) = .pointer (some ⟨Bl, 0, none⟩) := hN.eval 2 (by kernel_rfl)
        have hc := HCl.out W hi.1
        refine fillIn_value (v := .pointer (some ⟨l, 0, none⟩)) hO (by rfl) ho rfl (by rfl) (by clear h hN; have hcst : ∀ v, a.eval (.const v) = v := (fun _ => rfl); have hfun : ∀ f, a.eval (.func f) = .func (.func f) #[] #[] := (fun _ => rfl); generalize a.eval = ρ at *; go_simp) rfl (show W = W from rfl)
      | 5, ho, hui =>
        obtain rfl := Option.some.inj (show some _ = some o from ho)
        have e32 : a.eval (.tmp 32) = .pointer (some ⟨l, 0, none⟩) := h ⟨4, .data⟩ (by simp) rfl
        refine fillIn_value (v := .pointer (some ⟨l, 0, none⟩)) hO (by rfl) ho rfl (by rfl) (by clear h hN; have hcst : ∀ v, a.eval (.const v) = v := (fun _ => rfl); have hfun : ∀ f, a.eval (.func f) = .func (.func f) #[] #[] := (fun _ => rfl); generalize a.eval = ρ at *; go_simp) rfl (show W = W from rfl)
      | 6, ho, hui =>
        obtain rfl := Option.some.inj (show some _ = some o from ho)
        have e33 : a.eval (.tmp 33) = .pointer (some ⟨l, 0, none⟩) := h ⟨5, .data⟩ (by simp) rfl
        refine fillIn_value (v := .pointer (some ⟨l, 3, none⟩)) hO (by rfl) ho rfl (by rfl) (by clear h hN; have hcst : ∀ v, a.eval (.const v) = v := (fun _ => rfl); have hfun : ∀ f, a.eval (.func f) = .func (.func f) #[] #[] := (fun _ => rfl); generalize a.eval = ρ at *; go_simp) rfl (show W = W from rfl)
      | 7, ho, hui =>
        obtain rfl := Option.some.inj (show some _ = some o from ho)
        have e34 : a.eval (.tmp 34) = .pointer (some ⟨l, 3, none⟩) := h ⟨6, .data⟩ (by simp) rfl
        have hc := (HCg.out W hi.1).2.2.2.1
        refine fillIn_value (v := .int .i64 (p : Int)) hO (by rfl) ho rfl (by rfl) (by clear h hN; have hcst : ∀ v, a.eval (.const v) = v := (fun _ => rfl); have hfun : ∀ f, a.eval (.func f) = .func (.func f) #[] #[] := (fun _ => rfl); generalize a.eval = ρ at *; go_simp) rfl (show W = W from rfl)
      | 8, ho, hui =>
        obtain rfl := Option.some.inj (show some _ = some o from ho)
        have e2 : a.eval (.tmp 2) = .pointer (some ⟨Bl, 0, none⟩) := hN.eval 2 (by kernel_rfl)
        have hc := HCl.out W hi.1
        refine fillIn_value (v := .pointer (some ⟨l, 0, none⟩)) hO (by rfl) ho rfl (by rfl) (by clear h hN; have hcst : ∀ v, a.eval (.const v) = v := (fun _ => rfl); have hfun : ∀ f, a.eval (.func f) = .func (.func f) #[] #[] := (fun _ => rfl); generalize a.eval = ρ at *; go_simp) rfl (show W = W from rfl)
      | 9, ho, hui =>
        obtain rfl := Option.some.inj (show some _ = some o from ho)
        have e36 : a.eval (.tmp 36) = .pointer (some ⟨l, 0, none⟩) := h ⟨8, .data⟩ (by simp) rfl
        refine fillIn_value (v := .pointer (some ⟨l, 0, none⟩)) hO (by rfl) ho rfl (by rfl) (by clear h hN; have hcst : ∀ v, a.eval (.const v) = v := (fun _ => rfl); have hfun : ∀ f, a.eval (.func f) = .func (.func f) #[] #[] := (fun _ => rfl); generalize a.eval = ρ at *; go_simp) rfl (show W = W from rfl)
      | 10, ho, hui =>
        obtain rfl := Option.some.inj (show some _ = some o from ho)
        have e37 : a.eval (.tmp 37) = .pointer (some ⟨l, 0, none⟩) := h ⟨9, .data⟩ (by simp) rfl
        refine fillIn_value (v := .pointer (some ⟨l, 5, none⟩)) hO (by rfl) ho rfl (by rfl) (by clear h hN; have hcst : ∀ v, a.eval (.const v) = v := (fun _ => rfl); have hfun : ∀ f, a.eval (.func f) = .func (.func f) #[] #[] := (fun _ => rfl); generalize a.eval = ρ at *; go_simp) rfl (show W = W from rfl)
      | 11, ho, hui =>
        obtain rfl := Option.some.inj (show some _ = some o from ho)
        have e38 : a.eval (.tmp 38) = .pointer (some ⟨l, 5, none⟩) := h ⟨10, .data⟩ (by simp) rfl
        have hc := (HCg.out W hi.1).2.2.2.2.2.1
        refine fillIn_value (v := .int .i64 ag) hO (by rfl) ho rfl (by rfl) (by clear h hN; have hcst : ∀ v, a.eval (.const v) = v := (fun _ => rfl); have hfun : ∀ f, a.eval (.func f) = .func (.func f) #[] #[] := (fun _ => rfl); generalize a.eval = ρ at *; go_simp) rfl (show W = W from rfl)
      | 12, ho, hui =>
        obtain rfl := Option.some.inj (show some _ = some o from ho)
        have e2 : a.eval (.tmp 2) = .pointer (some ⟨Bl, 0, none⟩) := hN.eval 2 (by kernel_rfl)
        have hc := HCl.out W hi.1
        refine fillIn_value (v := .pointer (some ⟨l, 0, none⟩)) hO (by rfl) ho rfl (by rfl) (by clear h hN; have hcst : ∀ v, a.eval (.const v) = v := (fun _ => rfl); have hfun : ∀ f, a.eval (.func f) = .func (.func f) #[] #[] := (fun _ => rfl); generalize a.eval = ρ at *; go_simp) rfl (show W = W from rfl)
      | 13, ho, hui =>
        obtain rfl := Option.some.inj (show some _ = some o from ho)
        have e40 : a.eval (.tmp 40) = .pointer (some ⟨l, 0, none⟩) := h ⟨12, .data⟩ (by simp) rfl
        refine fillIn_value (v := .pointer (some ⟨l, 0, none⟩)) hO (by rfl) ho rfl (by rfl) (by clear h hN; have hcst : ∀ v, a.eval (.const v) = v := (fun _ => rfl); have hfun : ∀ f, a.eval (.func f) = .func (.func f) #[] #[] := (fun _ => rfl); generalize a.eval = ρ at *; go_simp) rfl (show W = W from rfl)
      | 14, ho, hui =>
        obtain rfl := Option.some.inj (show some _ = some o from ho)
        have e41 : a.eval (.tmp 41) = .pointer (some ⟨l, 0, none⟩) := h ⟨13, .data⟩ (by simp) rfl
        refine fillIn_value (v := .pointer (some ⟨l, 4, none⟩)) hO (by rfl) ho rfl (by rfl) (by clear h hN; have hcst : ∀ v, a.eval (.const v) = v := (fun _ => rfl); have hfun : ∀ f, a.eval (.func f) = .func (.func f) #[] #[] := (fun _ => rfl); generalize a.eval = ρ at *; go_simp) rfl (show W = W from rfl)
      | 15, ho, hui =>
        obtain rfl := Option.some.inj (show some _ = some o from ho)
        have e42 : a.eval (.tmp 42) = .pointer (some ⟨l, 4, none⟩) := h ⟨14, .data⟩ (by simp) rfl
        have hc := (HCg.out W hi.1).2.2.2.2.1
        refine fillIn_value (v := .int .i64 nr) hO (by rfl) ho rfl (by rfl) (by clear h hN; have hcst : ∀ v, a.eval (.const v) = v := (fun _ => rfl); have hfun : ∀ f, a.eval (.func f) = .func (.func f) #[] #[] := (fun _ => rfl); generalize a.eval = ρ at *; go_simp) rfl (show W = W from rfl)
      | 16, ho, hui =>
        obtain rfl := Option.some.inj (show some _ = some o from ho)
        have e1 : a.eval (.tmp 1) = .slice sp len cap := hN.eval 1 (by kernel_rfl)
        refine fillIn_value (v := .slice sp len cap) hO (by rfl) ho rfl (by rfl) (by clear h hN; have hcst : ∀ v, a.eval (.const v) = v := (fun _ => rfl); have hfun : ∀ f, a.eval (.func f) = .func (.func f) #[] #[] := (fun _ => rfl); generalize a.eval = ρ at *; go_simp) rfl (show W = W from rfl)
      | 17, ho, hui =>
        obtain rfl := Option.some.inj (show some _ = some o from ho)
        have e44 : a.eval (.tmp 44) = .slice sp len cap := h ⟨16, .data⟩ (by simp) rfl
        refine fillIn_value (v := .int .i64 (len : Int)) hO (by rfl) ho rfl (by rfl) (by clear h hN; have hcst : ∀ v, a.eval (.const v) = v := (fun _ => rfl); have hfun : ∀ f, a.eval (.func f) = .func (.func f) #[] #[] := (fun _ => rfl); generalize a.eval = ρ at *; go_simp) rfl (show W = W from rfl)
      | 18, ho, hui =>
        obtain rfl := Option.some.inj (show some _ = some o from ho)
        have e1 : a.eval (.tmp 1) = .slice sp len cap := hN.eval 1 (by kernel_rfl)
        refine fillIn_value (v := .slice sp len cap) hO (by rfl) ho rfl (by rfl) (by clear h hN; have hcst : ∀ v, a.eval (.const v) = v := (fun _ => rfl); have hfun : ∀ f, a.eval (.func f) = .func (.func f) #[] #[] := (fun _ => rfl); generalize a.eval = ρ at *; go_simp) rfl (show W = W from rfl)
      | 19, ho, hui =>
        obtain rfl := Option.some.inj (show some _ = some o from ho)
        have e46 : a.eval (.tmp 46) = .slice sp len cap := h ⟨18, .data⟩ (by simp) rfl
        refine fillIn_value (v := .slice (some ⟨W.heap.size, 0, none⟩) 1 1) (w' := W.alloc (.cells #[.slice sp len cap] 34)) hO (by rfl) ho rfl (by rfl) (by clear h hN; have hcst : ∀ v, a.eval (.const v) = v := (fun _ => rfl); have hfun : ∀ f, a.eval (.func f) = .func (.func f) #[] #[] := (fun _ => rfl); generalize a.eval = ρ at *; go_simp) ⟨_, rfl, al_new _ _ _ rfl⟩ ((Below.refl _ _).alloc (Nat.le_refl _) _)
      | 20, ho, hui =>
        obtain rfl := Option.some.inj (show some _ = some o from ho)
        obtain ⟨gs, e47, p47⟩ : ∃ gs, a.eval (.tmp 47) = .slice (some ⟨gs, 0, none⟩) 1 1 ∧ W.heap[gs]? = some (.cells #[.slice sp len cap] 34 (0, 0)) := h ⟨19, .data⟩ (by simp) rfl
        refine fillIn_enter (f := 57) (args := #[.slice (some ⟨gs, 0, none⟩) 1 1]) hO (by rfl) ho rfl (by rfl) (by clear h hN; have hcst : ∀ v, a.eval (.const v) = v := (fun _ => rfl); have hfun : ∀ f, a.eval (.func f) = .func (.func f) #[] #[] := (fun _ => rfl); generalize a.eval = ρ at *; go_simp) (HSm.out W gs hi.1 hi.2 p47) ?_
        rintro e w2 ⟨rfl, rfl⟩
        exact ⟨_, rfl, rfl, (show W = W from rfl)⟩
      | 21, ho, hui =>
        obtain rfl := Option.some.inj (show some _ = some o from ho)
        have e48 : a.eval (.tmp 48) = .int .u32 ((cs : Nat) : Int) := h ⟨20, .data⟩ (by simp) rfl
        refine fillIn_value (v := .int .i64 ((cs : Nat) : Int)) hO (by rfl) ho rfl (by rfl) (by clear h hN; have hcst : ∀ v, a.eval (.const v) = v := (fun _ => rfl); have hfun : ∀ f, a.eval (.func f) = .func (.func f) #[] #[] := (fun _ => rfl); generalize a.eval = ρ at *; go_simp) rfl (show W = W from rfl)
      | 22, ho, hui =>
        obtain rfl := Option.some.inj (show some _ = some o from ho)
        have e39 : a.eval (.tmp 39) = .int .i64 ag := h ⟨11, .data⟩ (by simp) rfl
        have e43 : a.eval (.tmp 43) = .int .i64 nr := h ⟨15, .data⟩ (by simp) rfl
        have e45 : a.eval (.tmp 45) = .int .i64 (len : Int) := h ⟨17, .data⟩ (by simp) rfl
        have e49 : a.eval (.tmp 49) = .int .i64 ((cs : Nat) : Int) := h ⟨21, .data⟩ (by simp) rfl
        refine fillIn_enter (f := 56) (args := #[.int .i64 ag, .int .i64 nr, .int .i64 (len : Int), .int .i64 ((cs : Nat) : Int)]) hO (by rfl) ho rfl (by rfl) (by clear h hN; have hcst : ∀ v, a.eval (.const v) = v := (fun _ => rfl); have hfun : ∀ f, a.eval (.func f) = .func (.func f) #[] #[] := (fun _ => rfl); generalize a.eval = ρ at *; go_simp) (HFs.out W (Lib.hid (HTb.out W hi.2))) ?_
        rintro e w2 ⟨gf, rfl, h4, h5, h6, h7⟩
        exact ⟨_, rfl, ⟨_, rfl, h5⟩, h6⟩
      | 23, ho, hui =>
        obtain rfl := Option.some.inj (show some _ = some o from ho)
        have e31 : a.eval (.tmp 31) = .pointer (some ⟨g, 0, none⟩) := h ⟨3, .data⟩ (by simp) rfl
        have e35 : a.eval (.tmp 35) = .int .i64 (p : Int) := h ⟨7, .data⟩ (by simp) rfl
        obtain ⟨gf, e50, p50⟩ : ∃ gf, a.eval (.tmp 50) = .slice (some ⟨gf, 0, none⟩) 512 512 ∧ SecRow W gf (firstL ag nr (len : Int) (cs : Int)) := h ⟨22, .data⟩ (by simp) rfl
        refine fillIn_enter (f := 48) (args := #[.pointer (some ⟨g, 0, none⟩), .int .i64 (p : Int), .slice (some ⟨gf, 0, none⟩) 512 512]) hO (by rfl) ho rfl (by rfl) (by clear h hN; have hcst : ∀ v, a.eval (.const v) = v := (fun _ => rfl); have hfun : ∀ f, a.eval (.func f) = .func (.func f) #[] #[] := (fun _ => rfl); generalize a.eval = ρ at *; go_simp) (HWb.out W gf hui p50) ?_
        rintro e w2 ⟨rfl, h5, h6, h7⟩
        exact ⟨_, rfl, ⟨rfl, h5⟩, ⟨h6, h7⟩⟩
      | 24, ho, hui =>
        obtain rfl := Option.some.inj (show some _ = some o from ho)
        have e4 : a.eval (.tmp 4) = .pointer (some ⟨Br, 0, none⟩) := hN.eval 4 (by kernel_rfl)
        obtain ⟨e51, p51⟩ : a.eval (.tmp 51) = .int .i64 ev ∧ Da B W g L s' (k + nparts len + 3) := h ⟨23, .data⟩ (by simp) rfl
        have hc := box_cell hui.1
        have hfr := frozen_row hui.1 0
        refine fillIn_done (w' := W.setCell ⟨Br, 0, none⟩ (.int .i64 ev)) hO (by rfl) ho rfl (by rfl) (by clear h hN; have hcst : ∀ v, a.eval (.const v) = v := (fun _ => rfl); have hfun : ∀ f, a.eval (.func f) = .func (.func f) #[] #[] := (fun _ => rfl); generalize a.eval = ρ at *; go_simp) ⟨rfl, set_own hui.1 _⟩ (⟨rfl, hui.2⟩)
      | nX + 25, ho, hui => exact absurd ho (by simp)
    · intro vals W hi h
      have u0 : vals 0 = .pointer (some ⟨l, 0, none⟩) := h 0 (by decide)
      have u1 : vals 1 = .pointer (some ⟨l, 0, none⟩) := h 1 (by decide)
      have u2 : vals 2 = .pointer (some ⟨l, 0, none⟩) := h 2 (by decide)
      have u3 : vals 3 = .pointer (some ⟨g, 0, none⟩) := h 3 (by decide)
      have u4 : vals 4 = .pointer (some ⟨l, 0, none⟩) := h 4 (by decide)
      have u5 : vals 5 = .pointer (some ⟨l, 0, none⟩) := h 5 (by decide)
      have u6 : vals 6 = .pointer (some ⟨l, 3, none⟩) := h 6 (by decide)
      have u7 : vals 7 = .int .i64 (p : Int) := h 7 (by decide)
      have u8 : vals 8 = .pointer (some ⟨l, 0, none⟩) := h 8 (by decide)
      have u9 : vals 9 = .pointer (some ⟨l, 0, none⟩) := h 9 (by decide)
      have u10 : vals 10 = .pointer (some ⟨l, 5, none⟩) := h 10 (by decide)
      have u11 : vals 11 = .int .i64 ag := h 11 (by decide)
      have u12 : vals 12 = .pointer (some ⟨l, 0, none⟩) := h 12 (by decide)
      have u13 : vals 13 = .pointer (some ⟨l, 0, none⟩) := h 13 (by decide)
      have u14 : vals 14 = .pointer (some ⟨l, 4, none⟩) := h 14 (by decide)
      have u15 : vals 15 = .int .i64 nr := h 15 (by decide)
      have u16 : vals 16 = .slice sp len cap := h 16 (by decide)
      have u17 : vals 17 = .int .i64 (len : Int) := h 17 (by decide)
      have u18 : vals 18 = .slice sp len cap := h 18 (by decide)
      obtain ⟨gs, u19, p19⟩ : ∃ gs, vals 19 = .slice (some ⟨gs, 0, none⟩) 1 1 ∧ W.heap[gs]? = some (.cells #[.slice sp len cap] 34 (0, 0)) := h 19 (by decide)
      have u20 : vals 20 = .int .u32 ((cs : Nat) : Int) := h 20 (by decide)
      have u21 : vals 21 = .int .i64 ((cs : Nat) : Int) := h 21 (by decide)
      obtain ⟨gf, u22, p22⟩ : ∃ gf, vals 22 = .slice (some ⟨gf, 0, none⟩) 512 512 ∧ SecRow W gf (firstL ag nr (len : Int) (cs : Int)) := h 22 (by decide)
      obtain ⟨u23, p23⟩ : vals 23 = .int .i64 ev ∧ Da B W g L s' (k + nparts len + 3) := h 23 (by decide)
      obtain ⟨u24, p24⟩ : vals 24 = undef ∧ W.heap[Br]? = some (.cells #[.int .i64 ev] 24 (0, 0)) := h 24 (by decide)
      generalize hA : fill _ _ _ _ = A
      have hA2 : (Act.put (Act.put (Act.put (Act.put (Act.put (Act.put (Act.put (Act.put (Act.put (Act.put (Act.put (Act.put (Act.put (Act.put (Act.put (Act.put (Act.put (Act.put (Act.put (Act.put (Act.put (Act.put (Act.put (Act.put (Act.put (_ : Act) (some 28) (vals 0)) (some 29) (vals 1)) (some 30) (vals 2)) (some 31) (vals 3)) (some 32) (vals 4)) (some 33) (vals 5)) (some 34) (vals 6)) (some 35) (vals 7)) (some 36) (vals 8)) (some 37) (vals 9)) (some 38) (vals 10)) (some 39) (vals 11)) (some 40) (vals 12)) (some 41) (vals 13)) (some 42) (vals 14)) (some 43) (vals 15)) (some 44) (vals 16)) (some 45) (vals 17)) (some 46) (vals 18)) (some 47) (vals 19)) (some 48) (vals 20)) (some 49) (vals 21)) (some 50) (vals 22)) (some 51) (vals 23)) none (vals 24)) = A := hA
      clear hA h V R U
      rw [u0, u1, u2, u3, u4, u5, u6, u7, u8, u9, u10, u11, u12, u13, u14, u15, u16, u17, u18, u19, u20, u21, u22, u23, u24] at hA2
      simp only [fill, Act.put, List.setIfInBounds_toArray, List.set_cons_succ, List.set_cons_zero] at hA2
      subst hA2
      clear u0 u1 u2 u3 u4 u5 u6 u7 u8 u9 u10 u11 u12 u13 u14 u15 u16 u17 u18 u19 u20 u21 u22 u23 u24
      have HDq := Lib.hid p23
      have HDz := Lib.hid p24
      have HKq := Lib.hid hi.1
      have HBq := Lib.hid hi.2
      clear p19 p22 p23 p24 hi HCl HCg HFs HWb HSm HTb HRw
      obtain ⟨V2, hV2⟩ : ∃ V2, V2 = W := ⟨_, rfl⟩
      subst hV2
      gi_wp2
      have hK' := HKq.out.1 D _ hDR HKD.out (fun cs t fr e => by cases e)
      have hrow : ∀ r, some D = some r → ∃ o : Obj, V2.heap[r]? = some o ∧ o.isCells = false := fun r e => by cases e; exact ⟨_, hK', rfl⟩
      have hc5 := cell_kept (box_cell HDz.out) (grownBy_putObj' V2 D (.deferred none)) (fun r e => by cases e; exact ⟨_, hK', rfl⟩)
      refine ⟨by simp, .inl ⟨_, _, rfl, run_takeDeferred hK', ?_⟩⟩
      refine ⟨.int .i64 ev, ?_, ?_, Lib.hid (da_grown HDq.out (grownBy_putObj' V2 D (.deferred none)) hrow), Lib.hid (HBq.out.grown (grownBy_putObj' V2 D (.deferred none)) (da_lt HDq.out).2.2 (fun r e => by cases e; have := HDD.out; have := HLE.out; omega)), Lib.hid (keep_after (keep_after HK1.out HKq.out (by have := HOrd.out; omega)) (KeepE.obj V2 _) (by have := HDD.out; have := HZ0.out; omega))⟩
      · simp [results, Tryd.f33, go_sem, hc5]
      · cases ok with
        | true => exact .inl ⟨rfl, by rw [← hev]; rfl⟩
        | false => exact .inr ⟨rfl, by rw [← hev]; rfl⟩
  case stop =>
    rintro D c pre W hDD ⟨j, hj, rfl⟩ ⟨rfl, ⟨sj, hac, hD⟩, hbr, hkt, hbl⟩ hK
    rw [List.length_range] at hD
    have hr2 := Hr.out
    unfold recActs at hr2
    rw [HBL.out trivial] at hr2
    have hspl : wrs p b 0 (List.range (nparts len)) = wrs p b 0 (List.range j) ++ (wrs p b 0 (List.range (nparts len))).drop (wrs p b 0 (List.range j)).length := by
      have e1 : List.range (nparts len) = List.range j ++ (List.range (nparts len)).drop j := by
        have h9 : (List.range (nparts len)).take j = List.range j := by rw [List.take_range]; congr 1; omega
        rw [← h9, List.take_append_drop]
      exact wrs_cut p b _ _ (by rw [List.length_range]; exact e1)
    rw [hspl, List.append_assoc, acts_append_no _ _ hac] at hr2
    obtain rfl : sj = s' := congrArg Prod.fst hr2
    obtain rfl : false = ok := congrArg Prod.snd hr2
    have hD' := Lib.hid (da_mono hD (show k + j ≤ k + nparts len + 3 by omega))
    have HDD := Lib.hid hDD
    clear hr2 hspl hDD z3 z4 z5 hD hac
    gi_wp2
    refine ⟨by simp, .inl ⟨_, _, rfl, run_takeDeferred hK, ?_⟩⟩
    have hc5 := cell_kept (box_cell hbr) (grownBy_putObj' _ D (.deferred none)) (fun r e => by cases e; exact ⟨_, hK, rfl⟩)
    refine ⟨.int .i64 8, ?_, (by first | exact .inr ⟨rfl, rfl⟩ | rfl), Lib.hid (da_grown hD'.out (grownBy_putObj' _ D (.deferred none)) (fun r e => by cases e; exact ⟨_, hK, rfl⟩)), Lib.hid (hbl.grown (grownBy_putObj' _ D (.deferred none)) (da_lt hD'.out).2.2 (fun r e => by cases e; have := HDD.out; have := HLE.out; omega)), Lib.hid (keep_after hkt (KeepE.obj _ _) (by have := HDD.out; have := HZ0.out; omega))⟩
    · simp [results, Tryd.f33, go_sem, hc5]
end Go.Proofs.YtfhgdcljhncjmaaDoor
