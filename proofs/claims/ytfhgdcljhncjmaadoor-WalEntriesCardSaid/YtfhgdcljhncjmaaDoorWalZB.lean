/- A log in use: what its calls do; the power goes. -/
import Derived.Test.YtfhgdcljhncjmaaDoorWalZA
namespace Go.Proofs.YtfhgdcljhncjmaaDoor
open Go.ChangeShapes Go.WideShapes Go.ChangeAt Go.RowKit
set_option linter.unusedVariables false
set_option maxRecDepth 20000

structure Lg (B : Nat) (w : World) (g l L : Nat) (s : Dst) (f en : Nat) (ag : Int) (hd : Nat) (bs : List (List Nat)) (p k : Nat) : Prop where
  da : Da B w g L s k
  w0 : s.W = []
  inv : LInv s.ls f en ag hd bs p
  log : LogAt w l g (f : Int) (en : Int) (p : Int) (bs.length : Int) ag (hd : Int) 0
  lb : B ≤ l
  tab : Fc.Tab w
  enL : en ≤ L ∧ L ≤ 190
  gb : 0 < B
theorem Lg.below {B : Nat} {w w' : World} {g l L : Nat} {s : Dst} {f en : Nat} {ag : Int} {hd : Nat} {bs : List (List Nat)} {p k : Nat} (h : Lg B w g l L s f en ag hd bs p k) (hb : Below w.heap.size w w') : Lg B w' g l L s f en ag hd bs p k :=
  ⟨da_below h.da hb, h.w0, h.inv, log_below h.log hb, h.lb, Fc.tab_later h.tab hb, h.enL, h.gb⟩
theorem Lg.mono {B : Nat} {w : World} {g l L : Nat} {s : Dst} {f en : Nat} {ag : Int} {hd : Nat} {bs : List (List Nat)} {p k k' : Nat} (h : Lg B w g l L s f en ag hd bs p k) (hk : k ≤ k') : Lg B w g l L s f en ag hd bs p k' :=
  ⟨da_mono h.da hk, h.w0, h.inv, h.log, h.lb, h.tab, h.enL, h.gb⟩
/-- broken off: what lasts behind a crash is either of two -/
def Torn (B : Nat) (w : World) (g L : Nat) (f en : Nat) (ag : Int) (hd : Nat) (bs : List (List Nat)) (p : Nat) (ag' : Int) (hd' : Nat) (bs' : List (List Nat)) (p' k : Nat) : Prop :=
  ∃ s', Da B w g L s' k ∧ Fc.Tab w ∧ ∀ ns, CrashOf s' ns → LInv ns f en ag hd bs p ∨ LInv ns f en ag' hd' bs' p'
section
variable {B : Nat} {w : World} {g l L : Nat} {s : Dst} {f en : Nat} {ag : Int} {hd : Nat} {bs : List (List Nat)} {p k : Nat}
theorem Lg.size (h : Lg B w g l L s f en ag hd bs p k) : B ≤ w.heap.size := (da_lt h.da).2.2
theorem lg_append (h : Lg B w g l L s f en ag hd bs p k) (hk : k ≤ 40000) (b : List Nat) (n cap : Nat) (sp : Option Addr) (hn : b.length = n) (hn2 : n ≤ 100000) (hlc : n ≤ cap) (hb : ∀ x ∈ b, x < 256) (hS : Row8 B w sp b) (hfit : p + need n ≤ en) :
    Calls Tryd.prog 12 #[.pointer (some ⟨l, 0, none⟩), .slice sp n cap] w fun e w' => ((e = .returned (.int .i64 0) ∧ ∃ s', Hid (Lg B w' g l L s' f en ag hd (bs ++ [b]) (p + need n) (k + need n + 3)) ∧ s'.ar = s.ar ∧ (Quiet s → Quiet s')) ∨ (e = .returned (.int .i64 8) ∧ ¬ Quiet s ∧ Hid (Torn B w' g L f en ag hd bs p ag hd (bs ++ [b]) (p + need n) (k + need n + 3)))) ∧ Hid (Below B w w') ∧ Hid (KeepE g l w w') := by
  have hcnt := h.inv.count
  have hage := h.inv.age
  have henL := h.enL
  obtain ⟨s', ok, hr⟩ : ∃ s' ok, acts s (recActs ag (bs.length : Int) p b) = (s', ok) := ⟨_, _, rfl⟩
  obtain ⟨g1, g2⟩ := h.inv.record (by omega) h.w0 b n hn hn2 hb hfit hr
  refine (append_any h.da hk p en h.enL.1 h.enL.2 b n cap sp hn hb hn2 hlc ⟨by omega, by omega⟩ (by omega) (by omega) h.log h.lb hS h.gb (Lib.hid h.tab) hfit s' ok hr).mono ?_
  rintro e w' ⟨a0, a1, a2, a3⟩
  have hT := tab_keep h.gb h.tab a2.out
  refine ⟨?_, a2, a3⟩
  rcases a0 with ⟨hok, rfl, hlg⟩ | ⟨hok, rfl, _⟩
  · obtain ⟨c1, c2, c3, c4⟩ := g1 hok
    refine .inl ⟨rfl, s', Lib.hid ⟨a1.out, c1, c4, ?_, h.lb, hT, h.enL, h.gb⟩, c2, fun hq => ?_⟩
    · rw [List.length_append]
      rw [show ((bs.length + [b].length : Nat) : Int) = (bs.length : Int) + 1 by simp]
      exact hlg
    · obtain ⟨s2, e2, q2, _⟩ := acts_quiet _ hq
      rw [hr] at e2
      have e3 : s' = s2 := congrArg Prod.fst e2
      rw [e3]
      exact q2
  · refine .inr ⟨rfl, fun hq => ?_, Lib.hid ⟨s', a1.out, hT, g2 hok⟩⟩
    obtain ⟨s2, e2, q2, _⟩ := acts_quiet _ hq
    rw [hr] at e2
    have := congrArg Prod.snd e2
    simp only at this
    rw [hok] at this
    cases this
theorem lg_full (h : Lg B w g l L s f en ag hd bs p k) (n cap : Nat) (sp : Option Addr) (hn2 : n ≤ 100000) (hfit : en < p + need n) :
    Calls Tryd.prog 12 #[.pointer (some ⟨l, 0, none⟩), .slice sp n cap] w fun e w' => e = .returned (.int .i64 7) ∧ Below w.heap.size w w' :=
  append_full p en h.inv.ge.2 (by have := h.enL; omega) n cap sp hn2 h.log hfit
theorem lg_trunc (h : Lg B w g l L s f en ag hd bs p k) (hk : k ≤ 40000) (hag : ag < 1000000) :
    Calls Tryd.prog 13 #[.pointer (some ⟨l, 0, none⟩)] w fun e w' => ((e = .returned (.int .i64 0) ∧ ∃ s', Hid (Lg B w' g l L s' f en (ag + 1) (1 - hd) [] (f + 2) (k + 2)) ∧ s'.ar = s.ar ∧ (Quiet s → Quiet s')) ∨ (e = .returned (.int .i64 8) ∧ ¬ Quiet s ∧ Hid (Torn B w' g L f en ag hd bs p (ag + 1) (1 - hd) [] (f + 2) (k + 2)))) ∧ Hid (Below B w w') ∧ Hid (KeepE g l w w') := by
  have hage := h.inv.age
  have henL := h.enL
  have hge := h.inv.ge
  have hhd := h.inv.hd01
  obtain ⟨s', ok, hr⟩ : ∃ s' ok, acts s [some (f + (1 - hd), sec (headL (ag + 1))), none] = (s', ok) := ⟨_, _, rfl⟩
  obtain ⟨g1, g2⟩ := h.inv.cut h.w0 hag hr
  refine (truncate_any h.da hk f (1 - hd) (by omega) (by omega) (by omega) (by omega) (by omega) (by omega) h.log h.lb h.gb (Lib.hid h.tab) s' ok hr).mono ?_
  rintro e w' ⟨a0, a1, a2, a3⟩
  have hT := tab_keep h.gb h.tab a2.out
  refine ⟨?_, a2, a3⟩
  rcases a0 with ⟨hok, rfl, hlg⟩ | ⟨hok, rfl, _⟩
  · obtain ⟨c1, c2, c3, c4⟩ := g1 hok
    refine .inl ⟨rfl, s', Lib.hid ⟨a1.out, c1, c4, ?_, h.lb, hT, h.enL, h.gb⟩, c2, fun hq => ?_⟩
    · rw [show ((f + 2 : Nat) : Int) = (f : Int) + 2 by push_cast; rfl]
      exact hlg
    · obtain ⟨s2, e2, q2, _⟩ := acts_quiet _ hq
      rw [hr] at e2
      have e3 : s' = s2 := congrArg Prod.fst e2
      rw [e3]
      exact q2
  · refine .inr ⟨rfl, fun hq => ?_, Lib.hid ⟨s', a1.out, hT, g2 hok⟩⟩
    obtain ⟨s2, e2, q2, _⟩ := acts_quiet _ hq
    rw [hr] at e2
    have := congrArg Prod.snd e2
    simp only at this
    rw [hok] at this
    cases this
/-- what is opened is what stands there -/
theorem lg_open {ns : List ByteArray} (h : Dq B w g L ns k) (hi : LInv ns f (f + en) ag hd bs p) (h3 : 3 ≤ en) (hfit : f + en ≤ L) (hL : L ≤ 190) (hG : 0 < B) (ht : Fc.Tab w) :
    Calls Tryd.prog 18 #[.pointer (some ⟨g, 0, none⟩), .int .i64 (f : Int), .int .i64 (en : Int)] w fun e w' => ∃ (l' : Nat) (rs : Value), e = .returned (.tuple #[.pointer (some ⟨l', 0, none⟩), rs, .int .i64 0]) ∧ w.heap.size ≤ l' ∧ Hid (LogAt w' l' g (f : Int) ((f + en : Nat) : Int) (p : Int) (bs.length : Int) ag (hd : Int) 0) ∧ Hid (RecsAt (w.heap.size + 1) l' w' rs bs) ∧ Hid (Below w.heap.size w w') := by
  refine (open_any h hi.full f en h3 hfit hL hG (Lib.hid ht) ag (hd : Int) hi.st).mono ?_
  rintro e w' ⟨a0, a1⟩
  have hage := hi.age
  rcases a0 with ⟨h0, _⟩ | ⟨_, l', j, q, m, bs', rs, rfl, b1, b2, b3, b4, b5, b6, b7⟩
  · omega
  · obtain ⟨rfl, rfl, rfl⟩ := recs_unique hi.recs (hi.end (by omega)) b1 b3
    exact ⟨l', rs, rfl, b4, b6, b7, a1⟩
theorem allStr_strs {ls : List Value} (h : Fk.AllStr ls) : ∃ ns : List ByteArray, ls = Fk.strs ns := by
  induction ls with
  | nil => exact ⟨[], rfl⟩
  | cons x t ih =>
    obtain ⟨s, rfl⟩ := h x (List.mem_cons_self ..)
    obtain ⟨ns, e⟩ := ih fun v hv => h v (List.mem_cons_of_mem _ hv)
    exact ⟨s :: ns, by rw [e]; rfl⟩
theorem strs_all (ns : List ByteArray) : Fk.AllStr (Fk.strs ns) := fun v hv => by
  obtain ⟨s, _, e⟩ := List.mem_map.1 hv
  exact ⟨s, e.symm⟩
theorem strs_get (ns : List ByteArray) (i : Nat) : (Fk.strs ns)[i]? = (ns[i]?).map Value.string := by unfold Fk.strs; rw [List.getElem?_map]
/-- the power goes, and comes back -/
theorem da_crash (h : Da B w g L s k) (hk : k ≤ 1000000) (sp : Option Addr) (P cp : Nat) (pk : Nat → Int) (hpk : ∀ W', Below B w W' → ∀ i, i < P → ∃ g' o, sp = some ⟨g', o, none⟩ ∧ W'.cell? ⟨g', o + i, none⟩ = some (.int .i64 (pk i))) :
    Calls Tryd.prog 30 #[.pointer (some ⟨g, 0, none⟩), .slice sp P cp] w fun e w' => e = .returned (.tuple #[]) ∧ ∃ ns, CrashOf s ns ∧ Hid (Da B w' g L ⟨ns, [], false, 0, false⟩ k) ∧ Hid (Below B w w') ∧ Hid (KeepT g w w') := by
  obtain ⟨gn, gl, cn, cl, vw, st, h1, h3, h4, h5, h6, h7⟩ := h
  obtain ⟨t1, t2, t3, t4⟩ := dk_types h1
  have hls := h1.rows.1
  have hns := h1.now.1
  have hsz := Fk.dk_size h1
  refine (Fk.dk_crash2 h1 (strs_all _) h3 (by omega) sp P cp pk (fun W' ho i hi => hpk W' (ho.below (fun q e => by rw [e]; exact h1.ge.2.2.1) hsz) i hi)).mono ?_
  rintro e w' ⟨rfl, a1, a2, a3⟩
  obtain ⟨fn, hfn⟩ : ∃ fn, (fun i => decide (i < P) && Fk.od (pk i)) = fn := ⟨_, rfl⟩
  rw [hfn] at a1
  obtain ⟨ns, hns2⟩ := allStr_strs (Fk.pickTo_str (strs_all s.ls) s.W fn s.W.length)
  have hlen : ns.length = s.ls.length := by
    have e1 := Fk.pickTo_len (Fk.strs s.ls) s.W fn s.W.length
    rw [hns2] at e1
    unfold Fk.strs at e1
    simpa using e1
  have hnow : Fk.nowTo (Fk.strs s.now) (Fk.pickTo (Fk.strs s.ls) s.W fn s.W.length) s.W s.W.length = Fk.strs ns := by
    apply List.ext_getElem?
    intro i
    have e2 : Fk.strs s.now = Fk.setAll (Fk.strs s.ls) s.W := (Fk.setAll_strs s.W s.ls).symm
    rw [e2, ← hns2]
    by_cases hi : i < (Fk.strs s.ls).length
    · by_cases hx : ∃ j, j < s.W.length ∧ (s.W.getD j (0, ByteArray.empty)).1 = i
      · exact Fk.nowTo_some _ _ s.W i (by rw [Fk.setAll_len]; exact hi) (by rw [Fk.pickTo_len]; exact hi) _ hx
      · rw [Fk.nowTo_none _ _ s.W i _ fun j hj e => hx ⟨j, hj, e⟩, Fk.pickTo_none _ s.W fn i _ fun j hj e => hx ⟨j, hj, e⟩]
        refine Fk.setAll_none _ s.W i fun x hx' e => ?_
        obtain ⟨j, hj, hxj⟩ := List.getElem_of_mem hx'
        exact hx ⟨j, hj, by simp [List.getD, hj, hxj, e]⟩
    · rw [List.getElem?_eq_none (by rw [Fk.nowTo_len, Fk.setAll_len]; omega), List.getElem?_eq_none (by rw [Fk.pickTo_len]; omega)]
  rw [hnow, hns2] at a1
  refine ⟨rfl, ns, ⟨hlen, fun i hi => ?_⟩, Lib.hid ⟨gn, gl, cn, cl, _, st, a1, by simp, by simp, h5, h6, Nat.zero_le _⟩, Lib.hid a2, Lib.hid ⟨fun q o hq hn => ?_, fun q cs fr hq hf => ?_⟩⟩
  · have hil : i < (Fk.strs s.ls).length := by unfold Fk.strs; simp; omega
    have h9 := Fk.pickTo_get (Fk.strs s.ls) s.W fn i hil s.W.length
    rw [hns2, strs_get, strs_get] at h9
    have h0 : ns[i]? = some ns[i] := List.getElem?_eq_getElem hi
    have h0' : s.ls[i]? = some s.ls[i] := List.getElem?_eq_getElem (by omega)
    rcases h9 with e | ⟨j, hj, e1, e2⟩
    · left
      rw [h0, h0'] at e ⊢
      simp only [Option.map_some] at e
      have := Option.some.inj e
      rw [Value.string.inj this]
    · right
      have hj2 : s.W.getD j (0, ByteArray.empty) = s.W[j] := by simp [List.getD, hj]
      rw [hj2] at e1 e2
      refine ⟨s.W[j], List.getElem_mem hj, e1, ?_⟩
      rw [h0] at e2 ⊢
      simp only [Option.map_some] at e2
      rw [Value.string.inj (Option.some.inj e2)]
  · have hlt := (Array.getElem?_eq_some_iff.1 hq).1
    have key : ∀ {x cs t fr}, w.heap[x]? = some (Obj.cells cs t fr) → DiskT t → q ≠ x := fun hx ht e => by
      rw [← e, hq] at hx
      cases hx
      exact hn _ _ _ rfl ht
    obtain ⟨c1, f1, t1⟩ := t1
    obtain ⟨c2, t2⟩ := t2
    obtain ⟨c3, t3⟩ := t3
    have hside : Fk.Side w q g gn gl vw := ⟨key t1 (.inl rfl), key t2 (.inr (.inl rfl)), key t3 (.inr (.inl rfl)), fun e => by
      obtain ⟨c4, t5⟩ := t4 q e
      exact key t5 (.inr (.inr rfl)) rfl, hlt⟩
    rw [(a3 q hside).2]
    exact hq
  · obtain ⟨f1, f2, f3⟩ := foe_dk h1 hf
    have hg : q ≠ g := by
      rintro rfl
      obtain ⟨c1, fr1, t1⟩ := t1
      rw [t1] at hq
      exact absurd hq (by simp)
    exact ⟨by rw [(a3 q ⟨hg, f1, f2, f3, (Array.getElem?_eq_some_iff.1 hq).1⟩).2]; exact hq, foe_mk a1 f1 f2 (fun e => by cases e)⟩
end
set_option maxHeartbeats 1000000 in
/-- Format, of a disk that nobody armed: nothing waits behind it -/
theorem format_q {B : Nat} {w : World} {g L k : Nat} {ns : List ByteArray} (h : Dq B w g L ns k) (a b : Nat) (hb : 3 ≤ b) (hab : a + b ≤ L) (hL : L ≤ 1000) (hk : k ≤ 50000) (hG : 0 < B) (ht : Hid (Fc.Tab w)) :
    Calls Tryd.prog 24 #[.pointer (some ⟨g, 0, none⟩), .int .i64 (a : Int), .int .i64 (b : Int)] w fun e w' => e = .returned (.int .i64 0) ∧ (∃ s', Hid (Da B w' g L s' (k + b + 3)) ∧ Quiet s' ∧ s'.W = [] ∧ s'.ls = fmt ns a b) ∧ Below B w w' ∧ KeepT g w w' ∧ Fc.Tab w' := by
  have hBs := (dq_lt h).2.2
  have HH := Lib.hid (has_ok h a b hb hab hL)
  have HS := Lib.hid (fun W => sector_none W)
  have HW := Lib.hid (fun W j gb (hj : j < b - 1) (hd : Dq B W g L (zer ns a j) (k + j)) (hr : SecRow W gb []) => dq_write hd (by omega) ((a : Int) + 1 + (j : Int)) (a + 1 + j) (by omega) (by omega) gb [] hr (by decide))
  have HA := Lib.hid (fun W (hT : Hid (Fc.Tab W)) => head_any 1 (by decide) (by decide) W hT)
  have HWB : Hid (∀ W gb, Dq B W g L (zer ns a (b - 1)) (k + (b - 1)) → SecRow W gb (headL 1) → Calls Tryd.prog 48 #[.pointer (some ⟨g, 0, none⟩), .int .i64 (a : Int), .slice (some ⟨gb, 0, none⟩) 512 512] W fun e w' => e = .returned (.int .i64 0) ∧ (∃ s', Hid (Da B w' g L s' (k + (b - 1) + 3)) ∧ Quiet s' ∧ s'.W = [] ∧ s'.ls = fmt ns a b) ∧ Below B W w' ∧ KeepT g W w') := Lib.hid fun W gb hd hr => by
    obtain ⟨s, h1, h2, h3⟩ := dq_any hd
    obtain ⟨s', e1, q1, _⟩ := acts_quiet [none, some (a, sec (headL 1)), none] h2
    obtain ⟨b1, _⟩ := bar_acts _ e1
    obtain ⟨c1, c2, _, _⟩ := b1 rfl
    refine (wbA h1 (by omega) (a : Int) a rfl (by omega) gb (headL 1) hr (head_len 1 (by decide) (by decide)) s' true e1).mono ?_
    rintro e w' ⟨h4 | h4, h5, h6, h7⟩
    · exact ⟨h4.2, ⟨s', Lib.hid h5, q1, c1, by rw [c2, h3]; rfl⟩, h6, h7⟩
    · cases h4.1
  have H0 := Lib.hid h
  have hw1 : IntKind.i64.wrap ((a : Int) + 1) = (a : Int) + 1 := by rw [IntKind.wrap_i64]; omega
  have hw2 : IntKind.i64.wrap ((a : Int) + (b : Int)) = (a : Int) + (b : Int) := by rw [IntKind.wrap_i64]; omega
  clear h
  go_enter Tryd.func24, Tryd.ntmps24
  go_wp2_with fail
  refine HH.out.mono ?_
  rintro e w' ⟨rfl, rfl⟩
  go_wp2_with fail
  go_loopw [7] (fun n wr => ∃ j : Nat, n = .int .i64 ((a : Int) + 1 + (j : Int)) ∧ j ≤ b - 1 ∧ Hid (Dq B wr g L (zer ns a j) (k + j)) ∧ Hid (Below B w wr) ∧ Hid (KeepT g w wr) ∧ Hid (Fc.Tab wr)) (fun n _ => ((a : Int) + (b : Int) - intOf n).toNat)
  case atStart => exact ⟨0, by simp, by omega, H0, Lib.hid (Below.refl _ _), Lib.hid (KeepT.refl _), ht⟩
  case round =>
    obtain ⟨j, rfl, hj, hD, hBl, hK, hT⟩ := hrel
    by_cases hjb : j < b - 1
    · have hw3 : IntKind.i64.wrap ((a : Int) + 1 + (j : Int) + 1) = (a : Int) + 1 + ((j + 1 : Nat) : Int) := by rw [IntKind.wrap_i64]; omega
      have hlt : (a : Int) + 1 + (j : Int) < (a : Int) + (b : Int) := by omega
      go_wp2_with fail
      refine (HS.out wr).mono ?_
      rintro e w1 ⟨rfl, a1, a2, a3⟩
      go_wp2_with fail
      refine (HW.out w1 j _ hjb (dq_below hD.out a2) a1).mono ?_
      rintro e w2 ⟨rfl, b1, b2, b3⟩
      have hb12 : Below B wr w2 := (a2.mono (dq_lt hD.out).2.2).trans b2
      have hk12 : KeepT g wr w2 := (KeepT.of_below (g := g) a2).trans b3
      have HB2 := Lib.hid (hBl.out.trans hb12)
      have HK2 := Lib.hid (hK.out.trans hk12)
      have HD2 := Lib.hid b1
      have HT2 := Lib.hid (tab_keep hG hT.out hb12)
      clear hb12 hk12 b1 b2 b3 a1 a2 a3 hD hBl hK hT
      go_wp2_with fail
      go_roundw
      case rel => exact ⟨j + 1, by first | rfl | (congr 1; push_cast; omega), by omega, HD2, HB2, HK2, HT2⟩
      case measure => simp [intOf]; omega
    · obtain rfl : j = b - 1 := by omega
      have hge : ¬ ((a : Int) + 1 + ((b - 1 : Nat) : Int) < (a : Int) + (b : Int)) := by omega
      go_wp2_with fail
      refine (HA.out wr hT).mono ?_
      rintro e w1 ⟨gh, rfl, hgh, a1, a2, a3⟩
      have hT1 := Lib.hid (Fc.tab_later hT.out a2)
      have hb1 := Lib.hid (a2.mono (dq_lt hD.out).2.2)
      have hD1 := Lib.hid (dq_below hD.out a2)
      have hK1 := Lib.hid (KeepT.of_below (g := g) a2)
      have HWX := Lib.hid (HWB.out w1 gh hD1.out a1)
      clear a1 a2 a3
      go_wp2_with fail
      refine HWX.out.mono ?_
      rintro e w2 ⟨rfl, b1, b2, b3⟩
      have B1 := Lib.hid b1
      have B2 := Lib.hid b2
      have B3 := Lib.hid b3
      clear b1 b2 b3
      go_wp2_with fail
      go_ret
      obtain ⟨s', d1, d2, d3, d4⟩ := B1.out
      exact ⟨rfl, ⟨s', Lib.hid (da_mono d1.out (by omega)), d2, d3, d4⟩, hBl.out.trans (hb1.out.trans B2.out), hK.out.trans (hK1.out.trans B3.out), tab_keep hG hT1.out B2.out⟩
end Go.Proofs.YtfhgdcljhncjmaaDoor
