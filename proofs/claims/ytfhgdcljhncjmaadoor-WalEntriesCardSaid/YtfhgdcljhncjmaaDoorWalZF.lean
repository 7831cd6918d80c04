/- A log in use, told by bounds alone; the power goes while it writes. -/
import Derived.Test.YtfhgdcljhncjmaaDoorWalZE
import Derived.Test.YtfhgdcljhncjmaaDoorWalLF
namespace Go.Proofs.YtfhgdcljhncjmaaDoor
open Go.ChangeShapes Go.WideShapes Go.ChangeAt Go.RowKit
set_option linter.unusedVariables false
set_option maxRecDepth 20000

def Like (b : List Nat) : Prop := b = [110, 101, 120, 116] ∨ b.length = 3066
def AllLike (bs : List (List Nat)) : Prop := ∀ b ∈ bs, Like b
theorem AllLike.snoc {bs : List (List Nat)} {b : List Nat} (h : AllLike bs) (hb : Like b) : AllLike (bs ++ [b]) := fun x hx => by
  rcases List.mem_append.1 hx with h1 | h1
  · exact h x h1
  · rw [List.mem_singleton.1 h1]; exact hb
def St (P : List (List Nat) → Prop) (B : Nat) (w : World) (g l A K : Nat) : Prop := ∃ s ag hd bs p k, Lg B w g l 18 s 2 16 ag hd bs p k ∧ Quiet s ∧ P bs ∧ ag ≤ (A : Int) ∧ k ≤ K
def Ar (P : List (List Nat) → Prop) (B : Nat) (w : World) (g l A K : Nat) : Prop := ∃ s ag hd bs p k, Lg B w g l 18 s 2 16 ag hd bs p k ∧ P bs ∧ ag ≤ (A : Int) ∧ k ≤ K
/-- broken off, or not: what a crash leaves is a log of such records -/
def Dn (P : List (List Nat) → Prop) (B : Nat) (w : World) (g A K : Nat) : Prop := ∃ s ag hd k, Da B w g 18 s k ∧ Fc.Tab w ∧ ag ≤ (A : Int) ∧ k ≤ K ∧ ∀ ns, CrashOf s ns → ∃ bs p, P bs ∧ LInv ns 2 16 ag hd bs p
def Up (P : List (List Nat) → Prop) (B : Nat) (w : World) (g A K : Nat) : Prop := ∃ ns ag hd bs p k, Da B w g 18 ⟨ns, [], false, 0, false⟩ k ∧ Fc.Tab w ∧ ag ≤ (A : Int) ∧ k ≤ K ∧ P bs ∧ LInv ns 2 16 ag hd bs p
section
variable {P : List (List Nat) → Prop} {B : Nat} {w w' : World} {g l A K : Nat}
theorem st_below (h : St P B w g l A K) (hb : Below w.heap.size w w') : St P B w' g l A K := by
  obtain ⟨s, ag, hd, bs, p, k, h1, h2⟩ := h
  exact ⟨s, ag, hd, bs, p, k, h1.below hb, h2⟩
theorem st_mono {A' K' : Nat} (h : St P B w g l A K) (hA : A ≤ A') (hK : K ≤ K') : St P B w g l A' K' := by
  obtain ⟨s, ag, hd, bs, p, k, h1, h2, h3, h4, h5⟩ := h
  exact ⟨s, ag, hd, bs, p, k, h1, h2, h3, by omega, by omega⟩
theorem st_like (h : St (· = []) B w g l A K) : St AllLike B w g l A K := by
  obtain ⟨s, ag, hd, bs, p, k, h1, h2, rfl, h4, h5⟩ := h
  exact ⟨s, ag, hd, [], p, k, h1, h2, (fun x hx => by cases hx), h4, h5⟩
theorem st_age (h : St P B w g l A K) (hA : A ≤ 1000) : Calls Tryd.prog 14 #[.pointer (some ⟨l, 0, none⟩)] w fun e w' => ∃ ag : Int, e = .returned (.int .i64 ag) ∧ 0 ≤ ag ∧ ag ≤ 1000 ∧ w = w' := by
  obtain ⟨s, ag, hd, bs, p, k, h1, h2, h3, h4, h5⟩ := h
  have ha := h1.inv.age
  refine (age_any h1.log).mono ?_
  rintro e w' ⟨rfl, rfl⟩
  exact ⟨ag, rfl, by omega, by omega, rfl⟩
theorem st_append (h : St AllLike B w g l A K) (hK : K ≤ 30000) (b : List Nat) (cap : Nat) (sp : Option Addr) (hn : b.length = 3066) (hlc : 3066 ≤ cap) (hb : ∀ x ∈ b, x < 256) (hS : Row8 B w sp b) :
    Calls Tryd.prog 12 #[.pointer (some ⟨l, 0, none⟩), .slice sp 3066 cap] w fun e w' => ∃ ev, e = .returned (.int .i64 ev) ∧ (ev = 0 ∨ ev = 7) ∧ Hid (St AllLike B w' g l A (K + 20)) ∧ Hid (Below B w w') ∧ Hid (KeepE g l w w') := by
  obtain ⟨s, ag, hd, bs, p, k, h1, h2, h3, h4, h5⟩ := h
  have hnd : need 3066 = 7 := by decide
  by_cases hfit : p + need 3066 ≤ 16
  · refine (lg_append h1 (by omega) b 3066 cap sp hn (by decide) hlc hb hS hfit).mono ?_
    rintro e w' ⟨a0, h7, h8⟩
    rcases a0 with ⟨rfl, s', h6, _, h9⟩ | ⟨_, h6, _⟩
    · exact ⟨0, rfl, .inl rfl, Lib.hid ⟨s', ag, hd, _, _, _, h6.out, h9 h2, h3.snoc (.inr hn), h4, by omega⟩, h7, h8⟩
    · exact absurd h2 h6
  · refine (lg_full h1 3066 cap sp (by decide) (by omega)).mono ?_
    rintro e w' ⟨rfl, h6⟩
    exact ⟨7, rfl, .inr rfl, Lib.hid ⟨s, ag, hd, bs, p, k, h1.below h6, h2, h3, h4, by omega⟩, Lib.hid (h6.mono h1.size), Lib.hid (KeepE.of_keep (KeepT.of_below (g := g) h6))⟩
/-- a spot of the row lies where it lay -/
theorem notTS : ¬ DiskT 52 := by unfold DiskT; decide
theorem st_spot (h : St P B w g l A K) {X : Nat} {cs : Array Value} {fr : Nat × Nat} (hX : w.heap[X]? = some (.cells cs 52 fr)) (hk : KeepE g l w w') : w'.heap[X]? = some (.cells cs 52 fr) := by
  obtain ⟨s, ag, hd, bs, p, k, h1, _⟩ := h
  refine hk.1 X _ (fun e => ?_) hX fun cs' t' fr' e => by cases e; exact notTS
  have hl := h1.log
  unfold LogAt at hl
  rw [← e, hX] at hl
  exact absurd hl (by simp)
/-- a row of texts that isn't the disk's lies where it lay -/
theorem st_row (h : St P B w g l A K) (hk : KeepE g l w w') {q : Nat} {cs : Array Value} {fr : Nat × Nat} (hq : w.heap[q]? = some (.cells cs 9 fr)) (hf : Foe g q w) : w'.heap[q]? = some (.cells cs 9 fr) ∧ Foe g q w' := by
  obtain ⟨s, ag, hd, bs, p, k, h1, _⟩ := h
  have hl := h1.log
  unfold LogAt at hl
  obtain ⟨c1, f1, hd1⟩ := da_type h1.da
  refine hk.2 (fun e => ?_) q cs fr (fun e => ?_) hq hf
  · rw [← e, hd1] at hl
    exact absurd hl (by simp)
  · rw [← e, hq] at hl
    exact absurd hl (by simp)
theorem own_same {w w' : World} {b : Nat} {e : TypeId} {z : Nat} {v : Value} {n : Nat} {xs : List Value} (h : w.ownsRow b e z v n xs) (hs : ∀ q cur, v.ownBlock = some q → w.heap[q]? = some (.cells cur e (0, 0)) → w'.heap[q]? = some (.cells cur e (0, 0))) : w'.ownsRow b e z v n xs := by
  refine ⟨h.1, ?_⟩
  rcases h.2 with ⟨h0, h1⟩ | ⟨g', cap, cur, hv, a, hg, rest⟩
  · exact .inl ⟨h0, h1⟩
  · exact .inr ⟨g', cap, cur, hv, a, hs g' cur (by rw [hv]; rfl) hg, rest⟩
/-- no disk owns what isn't there yet -/
theorem da_foe {L k : Nat} {s : Dst} (h : Da B w g L s k) {q : Nat} (hq : w.heap.size ≤ q) : Foe g q w := by
  obtain ⟨gn, gl, cn, cl, vw, st, h1, _⟩ := h
  obtain ⟨_, ⟨c2, t2⟩, ⟨c3, t3⟩, t4⟩ := dk_types h1
  have l2 := (Array.getElem?_eq_some_iff.1 t2).1
  have l3 := (Array.getElem?_eq_some_iff.1 t3).1
  refine foe_mk h1 (by omega) (by omega) fun e => ?_
  obtain ⟨c5, t5⟩ := t4 q e
  have l5 := (Array.getElem?_eq_some_iff.1 t5).1
  omega
/-- texts that were gathered, in a row that isn't the disk's -/
def Got (w : World) (g b : Nat) (v : Value) (ss : List ByteArray) : Prop := w.ownsRow b 9 1 v ss.length (Fk.strs ss) ∧ (ss = [] → v = .slice none 0 0) ∧ ∀ q, v.ownBlock = some q → Foe g q w
theorem got_keep {b : Nat} {v : Value} {ss : List ByteArray} (h : St P B w g l A K) (hk : KeepE g l w w') (hg : Got w g b v ss) : Got w' g b v ss := by
  obtain ⟨h1, h2, h3⟩ := hg
  refine ⟨own_same h1 fun q cur hq hc => (st_row h hk hc (h3 q hq)).1, h2, fun q hq => ?_⟩
  obtain ⟨cur, hc⟩ := own_blk h1 hq
  exact (st_row h hk hc (h3 q hq)).2
theorem got_below {b : Nat} {v : Value} {ss : List ByteArray} (hg : Got w g b v ss) (hb : Below w.heap.size w w') : Got w' g b v ss := by
  obtain ⟨h1, h2, h3⟩ := hg
  refine ⟨own_same h1 fun q cur hq hc => ?_, h2, fun q hq => (h3 q hq).below hb⟩
  rw [hb.block q (Array.getElem?_eq_some_iff.1 hc).1]; exact hc
theorem got_keepT {b : Nat} {v : Value} {ss : List ByteArray} (hk : KeepT g w w') (hg : Got w g b v ss) : Got w' g b v ss := by
  obtain ⟨h1, h2, h3⟩ := hg
  refine ⟨own_same h1 fun q cur hq hc => (hk.2 q cur _ hc (h3 q hq)).1, h2, fun q hq => ?_⟩
  obtain ⟨cur, hc⟩ := own_blk h1 hq
  exact (hk.2 q cur _ hc (h3 q hq)).2
theorem st_trunc (h : St P B w g l A K) (hK : K ≤ 30000) (hA : A ≤ 1000) :
    Calls Tryd.prog 13 #[.pointer (some ⟨l, 0, none⟩)] w fun e w' => e = .returned (.int .i64 0) ∧ Hid (St (· = []) B w' g l (A + 1) (K + 2)) ∧ Hid (Below B w w') := by
  obtain ⟨s, ag, hd, bs, p, k, h1, h2, h3, h4, h5⟩ := h
  refine (lg_trunc_q h1 h2 (by omega) (by omega)).mono ?_
  rintro e w' ⟨rfl, h6, h7⟩
  obtain ⟨s', h8, h9⟩ := h6.out
  exact ⟨rfl, Lib.hid ⟨s', _, _, [], _, _, h8, h9, rfl, by omega, by omega⟩, h7⟩
theorem st_open0 (h : St (· = []) B w g l A K) :
    Calls Tryd.prog 18 #[.pointer (some ⟨g, 0, none⟩), .int .i64 2, .int .i64 14] w fun e w' => ∃ l' : Nat, e = .returned (.tuple #[.pointer (some ⟨l', 0, none⟩), .slice none 0 0, .int .i64 0]) ∧ Hid (Below w.heap.size w w') := by
  obtain ⟨s, ag, hd, bs, p, k, h1, h2, rfl, h4, h5⟩ := h
  refine (lg_again (f := 2) (ct := 14) h1 h2 (by decide) 2 14 rfl rfl).mono ?_
  rintro e w' ⟨l', rs, rfl, _, a2, a3⟩
  rw [recs_none a2.out]
  exact ⟨l', rfl, a3⟩
theorem st_arm (h : St P B w g l A K) (n : Nat) (hn : n ≤ 1000) :
    Calls Tryd.prog 29 #[.pointer (some ⟨g, 0, none⟩), .int .i64 (n : Int)] w fun e w' => e = .returned (.tuple #[]) ∧ Hid (Ar P B w' g l A K) ∧ Hid (Below B w w') := by
  obtain ⟨s, ag, hd, bs, p, k, h1, h2, h3, h4, h5⟩ := h
  refine (da_arm h1.da n hn).mono ?_
  rintro e w' ⟨rfl, a1, a2, a3⟩
  exact ⟨rfl, Lib.hid ⟨_, ag, hd, bs, p, k, ⟨a1.out, h1.w0, h1.inv, log_keep h1.log a3.out, h1.lb, tab_keep h1.gb h1.tab a2.out, h1.enL, h1.gb⟩, h3, h4, h5⟩, a2⟩
theorem st_last (h : Ar AllLike B w g l A K) (hK : K ≤ 30000) (b : List Nat) (n cap : Nat) (sp : Option Addr) (hn : b.length = n) (hn2 : n ≤ 100) (hlc : n ≤ cap) (hb : ∀ x ∈ b, x < 256) (hL : Like b) (hS : Row8 B w sp b) :
    Calls Tryd.prog 12 #[.pointer (some ⟨l, 0, none⟩), .slice sp n cap] w fun e w' => ∃ ev, e = .returned (.int .i64 ev) ∧ Hid (Dn AllLike B w' g A (K + 20)) ∧ Hid (Below B w w') := by
  obtain ⟨s, ag, hd, bs, p, k, h1, h3, h4, h5⟩ := h
  have hnd : need n ≤ 2 := by unfold need; omega
  by_cases hfit : p + need n ≤ 16
  · refine (lg_append h1 (by omega) b n cap sp hn (by omega) hlc hb hS hfit).mono ?_
    rintro e w' ⟨a0, a1, _⟩
    rcases a0 with ⟨rfl, s', h6, _, _⟩ | ⟨rfl, _, h6⟩
    · exact ⟨0, rfl, Lib.hid ⟨s', ag, hd, _, h6.out.da, h6.out.tab, h4, by omega, fun ns hc => ⟨_, _, h3.snoc hL, h6.out.inv.crash h6.out.w0 ns hc⟩⟩, a1⟩
    · obtain ⟨s', c1, c2, c3⟩ := h6.out
      refine ⟨8, rfl, Lib.hid ⟨s', ag, hd, _, c1, c2, h4, by omega, fun ns hc => ?_⟩, a1⟩
      rcases c3 ns hc with c4 | c4
      · exact ⟨bs, p, h3, c4⟩
      · exact ⟨_, _, h3.snoc hL, c4⟩
  · refine (lg_full h1 n cap sp (by omega) (by omega)).mono ?_
    rintro e w' ⟨rfl, h6⟩
    exact ⟨7, rfl, Lib.hid ⟨s, ag, hd, k, da_below h1.da h6, Fc.tab_later h1.tab h6, h4, by omega, fun ns hc => ⟨bs, p, h3, h1.inv.crash h1.w0 ns hc⟩⟩, Lib.hid (h6.mono h1.size)⟩
theorem dn_crash (h : Dn P B w g A K) (hK : K ≤ 1000000) (hG : 0 < B) (sp : Option Addr) (n cp : Nat) (pk : Nat → Int) (hpk : ∀ W', Below B w W' → ∀ i, i < n → ∃ g' o, sp = some ⟨g', o, none⟩ ∧ W'.cell? ⟨g', o + i, none⟩ = some (.int .i64 (pk i))) :
    Calls Tryd.prog 30 #[.pointer (some ⟨g, 0, none⟩), .slice sp n cp] w fun e w' => e = .returned (.tuple #[]) ∧ Hid (Up P B w' g A K) ∧ Hid (Below B w w') := by
  obtain ⟨s, ag, hd, k, h1, h2, h3, h4, h5⟩ := h
  refine (da_crash h1 (by omega) sp n cp pk hpk).mono ?_
  rintro e w' ⟨rfl, ns, a1, a2, a3, _⟩
  obtain ⟨bs, p, h6, h7⟩ := h5 ns a1
  exact ⟨rfl, Lib.hid ⟨ns, ag, hd, bs, p, k, a2.out, tab_keep hG h2 a3.out, h3, h4, h6, h7⟩, a3⟩
/-- the records that came back, in a row -/
def Back (P : List Nat → Prop) (w : World) (a : Option Addr) (n : Nat) : Prop := ∀ i, i < n → ∃ gR gr cr b, a = some ⟨gR, 0, none⟩ ∧ w.cell? ⟨gR, i, none⟩ = some (.slice (some ⟨gr, 0, none⟩) b.length cr) ∧ Fc.Src w (some ⟨gr, 0, none⟩) b ∧ P b
theorem up_open (h : Up AllLike B w g A K) (hG : 0 < B) :
    Calls Tryd.prog 18 #[.pointer (some ⟨g, 0, none⟩), .int .i64 2, .int .i64 14] w fun e w' => ∃ (l' : Nat) (a : Option Addr) (n c : Nat), e = .returned (.tuple #[.pointer (some ⟨l', 0, none⟩), .slice a n c, .int .i64 0]) ∧ n ≤ 1000 ∧ Hid (Back Like w' a n) ∧ Hid (St AllLike B w' g l' A K) ∧ Hid (Below w.heap.size w w') := by
  obtain ⟨ns, ag, hd, bs, p, k, h1, h2, h3, h4, h5, h6⟩ := h
  have hq : Quiet ⟨ns, [], false, 0, false⟩ := ⟨rfl, rfl, rfl⟩
  have hB := (da_lt h1).2.2
  have hcnt := h6.count
  refine (lg_open (f := 2) (en := 14) (da_quiet h1 hq) h6 (by decide) (by decide) (by decide) hG h2).mono ?_
  rintro e w' ⟨l', rs, rfl, a1, a2, a3, a4⟩
  have hS : St AllLike B w' g l' A K := ⟨_, ag, hd, bs, p, k, ⟨da_below h1 a4.out, rfl, h6, a2.out, by omega, Fc.tab_later h2 a4.out, ⟨by decide, by decide⟩, hG⟩, hq, h5, h3, h4⟩
  by_cases h0 : bs = []
  · subst h0
    rw [recs_none a3.out]
    exact ⟨l', none, 0, 0, rfl, by decide, Lib.hid (fun i hi => by omega), Lib.hid hS, a4⟩
  · obtain ⟨gR, cR, rfl, hc⟩ := recs_cell a3.out bs.length rfl (List.length_pos_iff.2 h0)
    refine ⟨l', _, bs.length, cR, rfl, by omega, Lib.hid fun i hi => ?_, Lib.hid hS, a4⟩
    have hi2 : bs[i]? = some bs[i] := List.getElem?_eq_getElem hi
    obtain ⟨gr, cr, c1, c2⟩ := hc i _ hi2
    exact ⟨gR, gr, cr, _, rfl, c1, c2, h5 _ (List.getElem_mem hi)⟩
end
theorem row_next (B : Nat) (W : World) (fr : Nat × Nat) : Row8 B (W.alloc (.cells #[.int .u8 110, .int .u8 101, .int .u8 120, .int .u8 116] 5 fr)) (some ⟨W.heap.size, 0, none⟩) [110, 101, 120, 116] :=
  fun _ => ⟨W.heap.size, 0, rfl, fun i hi => by
    have hi2 : i < 4 := hi
    obtain rfl | rfl | rfl | rfl : i = 0 ∨ i = 1 ∨ i = 2 ∨ i = 3 := by omega
    all_goals simp [World.cell?, Fc.heap_alloc], .inl ⟨_, _, al_new _ _ _ rfl⟩⟩
end Go.Proofs.YtfhgdcljhncjmaaDoor
