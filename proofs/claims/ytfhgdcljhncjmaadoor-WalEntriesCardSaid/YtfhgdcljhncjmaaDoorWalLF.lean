/- WalFull. -/
import Derived.Test.YtfhgdcljhncjmaaDoorWalZC
import Derived.Test.YtfhgdcljhncjmaaDoorRows4
namespace Go.Proofs.YtfhgdcljhncjmaaDoor
open Go.ChangeShapes Go.WideShapes Go.ChangeAt Go.RowKit
set_option linter.unusedVariables false
set_option maxRecDepth 20000

theorem spot_at {w : World} {x : Addr} {v : Value} (h : w.cell? (x.add 0) = some v) : ∃ g o, x = ⟨g, o, none⟩ := by
  obtain ⟨g, o, s⟩ := x
  cases s with
  | none => exact ⟨g, o, rfl⟩
  | some s =>
    simp [World.cell?, Addr.add] at h
    split at h <;> cases h
theorem add_off (g o i : Nat) : (⟨g, o, none⟩ : Addr).add i = ⟨g, o + i, none⟩ := by unfold Addr.add; split <;> simp_all
theorem bytes8_came {w : World} {a : Option Addr} {n c : Nat} {z : List Int} (h : Bytes8 w a n c z) : Fc.Came w a n c z := h
/-- a row's i-th bytes -/
theorem ent_at {st j : Nat} (hj0 : 0 < j) (hst : 0 < st) {w : World} {a : Option Addr} {len cap : Nat} {z : List EntS} (h : IsRS st j w a len cap z) (i : Nat) (hi : i < len) : ∃ g o sp n c zz, a = some ⟨g, o, none⟩ ∧ w.cell? ⟨g, o + i * st + j, none⟩ = some (.slice sp n c) ∧ Fc.Came w sp n c zz ∧ ∀ f, f < st → f ≠ j → ∃ v, w.cell? ⟨g, o + i * st + f, none⟩ = some (.int .i64 v) ∧ -9223372036854775808 ≤ v ∧ v ≤ 9223372036854775807 := by
  rcases h with ⟨_, h1, _⟩ | ⟨x, rfl, h1, h2, h3, h4, h5⟩
  · omega
  · obtain ⟨e1, e2, e3⟩ := h4 i (by omega)
    have e0 := (h4 0 (by omega)).1 0 hst (by omega)
    rw [Nat.zero_mul] at e0
    obtain ⟨g, o, rfl⟩ := spot_at e0
    rw [add_off] at e2
    refine ⟨g, o, _, _, _, _, rfl, by rw [← e2]; congr 2; omega, bytes8_came e3, fun f hf hj => ⟨_, ?_, bounds_i64 (h5 (z.getD i entD) (by
      have hz : i < z.length := by omega
      have : z.getD i entD = z[i] := by simp [List.getD, hz]
      rw [this]; exact List.getElem_mem hz) f hf hj)⟩⟩
    have := e1 f hf hj
    rw [add_off] at this
    rw [← this]; congr 2; omega
theorem rs_le {st j : Nat} {w : World} {a : Option Addr} {len cap : Nat} {z : List EntS} (h : IsRS st j w a len cap z) : len ≤ cap ∧ cap ≤ 9223372036854775807 := by
  rcases h with ⟨_, h1, h2, _⟩ | ⟨_, _, h1, h2, _⟩
  · omega
  · unfold maxLen at h2; omega
theorem row_zeros (B n : Nat) (W : World) : Row8 B (W.alloc (.cells (Fc.cells (List.replicate n 0)).toArray 5)) (some ⟨W.heap.size, 0, none⟩) (List.replicate n 0) :=
  fun _ => ⟨W.heap.size, 0, rfl, fun i hi => by
    have hi2 : i < n := by simpa using hi
    simp [World.cell?, Fc.heap_alloc, Fc.cells, hi2], .inl ⟨_, _, al_new _ _ _ rfl⟩⟩
def nxt (w : World) (l : Nat) : Nat := match w.cell? ⟨l, 3, none⟩ with
  | some (.int _ n) => n.toNat
  | _ => 0
theorem nxt_log {w : World} {l g : Nat} {f en nr ag hd fl : Int} {p : Nat} (h : LogAt w l g f en (p : Int) nr ag hd fl) : nxt w l = p := by
  unfold nxt
  rw [(log_cells h).2.2.2.1]
  simp
theorem lg_any {B : Nat} {w : World} {g l L : Nat} {s : Dst} {f en : Nat} {ag : Int} {hd : Nat} {bs : List (List Nat)} {p k : Nat} (h : Lg B w g l L s f en ag hd bs p k) (hq : Quiet s) (hk : k ≤ 30000) (b : List Nat) (n cap : Nat) (sp : Option Addr) (hn : b.length = n) (hn2 : n ≤ 6000) (hlc : n ≤ cap) (hb : ∀ x ∈ b, x < 256) (hS : Row8 B w sp b) :
    Calls Tryd.prog 12 #[.pointer (some ⟨l, 0, none⟩), .slice sp n cap] w fun e w' => ∃ ev, e = .returned (.int .i64 ev) ∧ Hid (∃ s' bs' p', Lg B w' g l L s' f en ag hd bs' p' (k + 20) ∧ Quiet s') ∧ Hid (Below B w w') := by
  by_cases hfit : p + need n ≤ en
  · refine (lg_append_q h hq (by omega) b n cap sp hn (by omega) hlc hb hS hfit).mono ?_
    rintro e w' ⟨rfl, h3, h4⟩
    obtain ⟨s', h5, h6⟩ := h3.out
    exact ⟨0, rfl, Lib.hid ⟨s', _, _, h5.mono (by unfold need; omega), h6⟩, h4⟩
  · refine (lg_full h n cap sp (by omega) (by omega)).mono ?_
    rintro e w' ⟨rfl, h3⟩
    exact ⟨7, rfl, Lib.hid ⟨s, bs, p, (h.below h3).mono (by omega), hq⟩, Lib.hid (h3.mono h.size)⟩
set_option maxHeartbeats 8000000 in
theorem full_mid (a0 : Option Addr) (len0 cap0 : Nat) (z0 : List EntS) (a1 : Int) (w : World) (hG : 0 < w.heap.size) (ht : Hid (Fc.Tab w)) (hrow : IsRS 3 1 w a0 len0 cap0 z0) :
    Calls Tryd.prog 8 #[.slice a0 len0 cap0, .int .i64 a1] w fun e w' => e = .returned (.bool true) ∧ Below w.heap.size w w' := by
  have HFr := Lib.hid (fresh_any w hG ht)
  have HGh := Lib.hid hG
  have HRow := Lib.hid hrow
  have hle := rs_le hrow
  have hmk : ∀ (n : Nat) (hn : n ≤ 100000) (W : World), (Instr.makeSlice 34 (.int .i64 (n : Int)) (.int .i64 (n : Int))).run Tryd.prog W = .ok (.slice (some ⟨W.heap.size, 0, none⟩) n n) (W.alloc (.cells (Fc.cells (List.replicate n 0)).toArray 5)) := fun n hn W => Fc.mk_bytes n (by omega) W
  have HMk := Lib.hid hmk
  clear hG hrow hmk
  go_enter Tryd.func8, Tryd.ntmps8
  go_wp2_with fail
  refine HFr.out.mono ?_
  rintro e w1 ⟨g, l, rfl, hL1, hb1⟩
  have HLog : Hid (Calls Tryd.prog 10 #[] w1 fun e w' => e = .returned (.bool true) ∧ Hid (Below w1.heap.size w1 w')) := Lib.hid (logs_any w1 (Nat.lt_of_lt_of_le HGh.out hb1.out.size) (Lib.hid (Fc.tab_later ht.out hb1.out)))
  go_wp2_with fail
  refine HLog.out.mono ?_
  rintro e w2 ⟨rfl, hb2⟩
  have HL2 : Hid (∃ s bs p, Lg w.heap.size w2 g l 18 s 2 16 1 0 bs p 20 ∧ Quiet s) := Lib.hid (by
    obtain ⟨s, h1, h2⟩ := hL1.out
    exact ⟨s, _, _, h1.below hb2.out, h2⟩)
  have HB2 := Lib.hid (hb1.out.trans (hb2.out.mono hb1.out.size))
  clear hL1 hb1 hb2 HFr HLog
  go_wp2_with fail
  go_loopw [8] (fun i wr => ∃ j : Nat, i = .int .i64 (j : Int) ∧ j ≤ 5 ∧ Hid (∃ s bs p, Lg w.heap.size wr g l 18 s 2 16 1 0 bs p (20 + 20 * j) ∧ Quiet s) ∧ Hid (Below w.heap.size w wr)) (fun i _ => 5 - (intOf i).toNat)
  case atStart => exact ⟨0, rfl, by omega, HL2, HB2⟩
  case round =>
    obtain ⟨j, rfl, hj, hlg, hbl⟩ := hrel
    by_cases hlt : j < len0
    · by_cases hlt5 : j < 5
      · have hltI : (j : Int) < (len0 : Int) := by omega
        have hlt5I : (j : Int) < 5 := by omega
        have hw1 : IntKind.i64.wrap ((j : Int) + 1) = ((j + 1 : Nat) : Int) := by rw [IntKind.wrap_i64]; omega
        obtain ⟨ga, oa, sp, n, c, zz, rfl, hcell, hcame, _⟩ := ent_at (by decide) (by decide) HRow.out j hlt
        obtain ⟨q, hq, hqn, hmin, hmin2⟩ : ∃ q : Nat, q ≤ 1500 ∧ q ≤ n ∧ min (n : Int) 1500 = (q : Int) ∧ (if (1500 : Int) < (n : Int) then 1500 else (n : Int)) = (q : Int) := ⟨min n 1500, by omega, by omega, by omega, by split <;> omega⟩
        obtain ⟨b, b1, b2, b3⟩ := row_came hcame q hqn
        have hcl := Fc.came_le hcame
        have hca := Fc.came_addr hcame
        have HC := Lib.hid (fun W (hW : Below w.heap.size w W) => (hW.cell (World.block_lt_of_cell? w _ hcell)).trans hcell)
        have HAp : Hid (∀ W, Below wr.heap.size wr W → Calls Tryd.prog 12 #[.pointer (some ⟨l, 0, none⟩), .slice sp q c] W fun e w' => ∃ ev, e = .returned (.int .i64 ev) ∧ Hid (∃ s bs p, Lg w.heap.size w' g l 18 s 2 16 1 0 bs p (20 + 20 * (j + 1)) ∧ Quiet s) ∧ Hid (Below w.heap.size W w')) := Lib.hid fun W hW => by
          obtain ⟨s, bs, p, h1, h2⟩ := hlg.out
          refine (lg_any (h1.below hW) h2 (by omega) b q c sp b1 (by omega) (by omega) b2 ?_).mono ?_
          · refine row8_same b3 fun g0 hor x0 hx => ?_
            have hlt0 := (Array.getElem?_eq_some_iff.1 hx).1
            rw [hW.block g0 (Nat.lt_of_lt_of_le hlt0 hbl.out.size), hbl.out.block g0 hlt0]; exact hx
          · rintro e w' ⟨ev, rfl, h3, h4⟩
            obtain ⟨s', bs', p', h5, h6⟩ := h3.out
            exact ⟨ev, rfl, Lib.hid ⟨s', bs', p', h5.mono (by omega), h6⟩, h4⟩
        have hq0 : (q : Int) ≤ (n : Int) := by omega
        have hq1 : (q : Int) ≤ (c : Int) := by omega
        have hqc : q ≤ c := by omega
        clear hcell hcame b1 b2 b3 hcl HL2 HB2
        cases sp with
        | none =>
          have hn0 : n = 0 ∧ c = 0 := by
            rcases hca with ⟨_, h1, h2⟩ | ⟨x, h1⟩
            · exact ⟨h1, h2⟩
            · cases h1
          obtain ⟨rfl, rfl⟩ := hn0
          obtain rfl : q = 0 := by omega
          have hm00 : min (0 : Int) 1500 = 0 := by decide
          clear hca hmin hmin2
          go_wp2_with fail
          let U : Nat → World → Prop := fun jX W => match jX with | 0 => True | 1 => True | 2 => True | 3 => True | 4 => True | 5 => True | 6 => True | 7 => True | 8 => True | 9 => True | 10 => True | 11 => True | 12 => True | 13 => True | 14 => Below wr.heap.size wr W | _ => True
          let R : Nat → World → World → Prop := fun jX W W2 => match jX with | 0 => W = W2 | 1 => W = W2 | 2 => W = W2 | 3 => W = W2 | 4 => W = W2 | 5 => W = W2 | 6 => W = W2 | 7 => W = W2 | 8 => W = W2 | 9 => W = W2 | 10 => W = W2 | 11 => W = W2 | 12 => W = W2 | 13 => W = W2 | 14 => Below w.heap.size W W2 | _ => W = W2
          let V : Nat → Value → World → Prop := fun jX v W => match jX with | 0 => v = .pointer (some ⟨l, 0, none⟩) | 1 => v = .slice (some ⟨ga, oa, none⟩) len0 cap0 | 2 => v = .int .i64 (j : Int) | 3 => v = .pointer (some ⟨ga, oa + j * 3, none⟩) | 4 => v = .pointer (some ⟨ga, oa + j * 3 + 1, none⟩) | 5 => v = .slice none 0 0 | 6 => v = .slice (some ⟨ga, oa, none⟩) len0 cap0 | 7 => v = .int .i64 (j : Int) | 8 => v = .pointer (some ⟨ga, oa + j * 3, none⟩) | 9 => v = .pointer (some ⟨ga, oa + j * 3 + 1, none⟩) | 10 => v = .slice none 0 0 | 11 => v = .int .i64 0 | 12 => v = .int .i64 0 | 13 => v = .slice none 0 0 | 14 => ∃ ev, v = .int .i64 ev ∧ ∃ s bs p, Lg w.heap.size W g l 18 s 2 16 1 0 bs p (20 + 20 * (j + 1)) ∧ Quiet s | _ => True
          refine wp_region_fill2 (by kernel_rfl) U V (fun W => Below w.heap.size w W) R (by kernel_rfl) (by kernel_rfl) (hbl.out.trans ((Below.refl _ _).drew)) ?_ ?_ ?_ ?_ ?_ ?_
          · intro jX
            match jX with
            | 0 => exact trivial
            | 1 => exact trivial
            | 2 => exact trivial
            | 3 => exact trivial
            | 4 => exact trivial
            | 5 => exact trivial
            | 6 => exact trivial
            | 7 => exact trivial
            | 8 => exact trivial
            | 9 => exact trivial
            | 10 => exact trivial
            | 11 => exact trivial
            | 12 => exact trivial
            | 13 => exact trivial
            | 14 => exact (Below.refl _ _).drew
            | nX + 15 => exact trivial
          · intro iX W W2 hr hi
            match iX, hr with
            | 0, hr => exact (show W = W2 from hr) ▸ hi
            | 1, hr => exact (show W = W2 from hr) ▸ hi
            | 2, hr => exact (show W = W2 from hr) ▸ hi
            | 3, hr => exact (show W = W2 from hr) ▸ hi
            | 4, hr => exact (show W = W2 from hr) ▸ hi
            | 5, hr => exact (show W = W2 from hr) ▸ hi
            | 6, hr => exact (show W = W2 from hr) ▸ hi
            | 7, hr => exact (show W = W2 from hr) ▸ hi
            | 8, hr => exact (show W = W2 from hr) ▸ hi
            | 9, hr => exact (show W = W2 from hr) ▸ hi
            | 10, hr => exact (show W = W2 from hr) ▸ hi
            | 11, hr => exact (show W = W2 from hr) ▸ hi
            | 12, hr => exact (show W = W2 from hr) ▸ hi
            | 13, hr => exact (show W = W2 from hr) ▸ hi
            | 14, hr => exact hi.trans hr
            | nX + 15, hr => exact (show W = W2 from hr) ▸ hi
          · intro iX jX W W2 hij hi hui hr h
            match iX, hij, hui, hr with
            | 0, hij, hui, hr => exact (show W = W2 from hr) ▸ h
            | 1, hij, hui, hr => exact (show W = W2 from hr) ▸ h
            | 2, hij, hui, hr => exact (show W = W2 from hr) ▸ h
            | 3, hij, hui, hr => exact (show W = W2 from hr) ▸ h
            | 4, hij, hui, hr => exact (show W = W2 from hr) ▸ h
            | 5, hij, hui, hr => exact (show W = W2 from hr) ▸ h
            | 6, hij, hui, hr => exact (show W = W2 from hr) ▸ h
            | 7, hij, hui, hr => exact (show W = W2 from hr) ▸ h
            | 8, hij, hui, hr => exact (show W = W2 from hr) ▸ h
            | 9, hij, hui, hr => exact (show W = W2 from hr) ▸ h
            | 10, hij, hui, hr => exact (show W = W2 from hr) ▸ h
            | 11, hij, hui, hr => exact (show W = W2 from hr) ▸ h
            | 12, hij, hui, hr => exact (show W = W2 from hr) ▸ h
            | 13, hij, hui, hr => exact (show W = W2 from hr) ▸ h
            | 14, hij, hui, hr =>
              match jX, hij, h with
              | 0, hij, h => exact h
              | 1, hij, h => exact h
              | 2, hij, h => exact h
              | 3, hij, h => exact h
              | 4, hij, h => exact h
              | 5, hij, h => exact h
              | 6, hij, h => exact h
              | 7, hij, h => exact h
              | 8, hij, h => exact h
              | 9, hij, h => exact h
              | 10, hij, h => exact h
              | 11, hij, h => exact h
              | 12, hij, h => exact h
              | 13, hij, h => exact h
              | 14, hij, h => exact absurd rfl hij
              | nX + 15, hij, h => exact h
            | nX + 15, hij, hui, hr => exact (show W = W2 from hr) ▸ h
          · intro iX jX v W W2 hij hi hui hr h
            match iX, hij, hui, hr with
            | 0, hij, hui, hr => exact (show W = W2 from hr) ▸ h
            | 1, hij, hui, hr => exact (show W = W2 from hr) ▸ h
            | 2, hij, hui, hr => exact (show W = W2 from hr) ▸ h
            | 3, hij, hui, hr => exact (show W = W2 from hr) ▸ h
            | 4, hij, hui, hr => exact (show W = W2 from hr) ▸ h
            | 5, hij, hui, hr => exact (show W = W2 from hr) ▸ h
            | 6, hij, hui, hr => exact (show W = W2 from hr) ▸ h
            | 7, hij, hui, hr => exact (show W = W2 from hr) ▸ h
            | 8, hij, hui, hr => exact (show W = W2 from hr) ▸ h
            | 9, hij, hui, hr => exact (show W = W2 from hr) ▸ h
            | 10, hij, hui, hr => exact (show W = W2 from hr) ▸ h
            | 11, hij, hui, hr => exact (show W = W2 from hr) ▸ h
            | 12, hij, hui, hr => exact (show W = W2 from hr) ▸ h
            | 13, hij, hui, hr => exact (show W = W2 from hr) ▸ h
            | 14, hij, hui, hr =>
              match jX, hij, h with
              | 0, hij, h => exact h
              | 1, hij, h => exact h
              | 2, hij, h => exact h
              | 3, hij, h => exact h
              | 4, hij, h => exact h
              | 5, hij, h => exact h
              | 6, hij, h => exact h
              | 7, hij, h => exact h
              | 8, hij, h => exact h
              | 9, hij, h => exact h
              | 10, hij, h => exact h
              | 11, hij, h => exact h
              | 12, hij, h => exact h
              | 13, hij, h => exact h
              | 14, hij, h => exact absurd rfl hij
              | nX + 15, hij, h => exact h
            | nX + 15, hij, hui, hr => exact (show W = W2 from hr) ▸ h
          · intro iX o ho a W hN hi hui h
            match iX, ho, hui with
            | 0, ho, hui =>
              obtain rfl := Option.some.inj (show some _ = some o from ho)
              have e6 : a.eval (.tmp 6) = .pointer (some ⟨l, 0, none⟩) := hN.eval 6 (by kernel_rfl)
              refine fill_value (v := .pointer (some ⟨l, 0, none⟩)) ho rfl (by rfl) (by clear h hN; have hcst : ∀ v, a.eval (.const v) = v := (fun _ => rfl); have hfun : ∀ f, a.eval (.func f) = .func (.func f) #[] #[] := (fun _ => rfl); generalize a.eval = ρ at *; go_simp) rfl (show W = W from rfl)
            | 1, ho, hui =>
              obtain rfl := Option.some.inj (show some _ = some o from ho)
              have e0 : a.eval (.tmp 0) = .slice (some ⟨ga, oa, none⟩) len0 cap0 := hN.eval 0 (by kernel_rfl)
              refine fill_value (v := .slice (some ⟨ga, oa, none⟩) len0 cap0) ho rfl (by rfl) (by clear h hN; have hcst : ∀ v, a.eval (.const v) = v := (fun _ => rfl); have hfun : ∀ f, a.eval (.func f) = .func (.func f) #[] #[] := (fun _ => rfl); generalize a.eval = ρ at *; go_simp) rfl (show W = W from rfl)
            | 2, ho, hui =>
              obtain rfl := Option.some.inj (show some _ = some o from ho)
              have e8 : a.eval (.tmp 8) = .int .i64 (j : Int) := hN.eval 8 (by kernel_rfl)
              refine fill_value (v := .int .i64 (j : Int)) ho rfl (by rfl) (by clear h hN; have hcst : ∀ v, a.eval (.const v) = v := (fun _ => rfl); have hfun : ∀ f, a.eval (.func f) = .func (.func f) #[] #[] := (fun _ => rfl); generalize a.eval = ρ at *; go_simp) rfl (show W = W from rfl)
            | 3, ho, hui =>
              obtain rfl := Option.some.inj (show some _ = some o from ho)
              have e34 : a.eval (.tmp 34) = .slice (some ⟨ga, oa, none⟩) len0 cap0 := h ⟨1, .data⟩ (by simp) rfl
              have e35 : a.eval (.tmp 35) = .int .i64 (j : Int) := h ⟨2, .data⟩ (by simp) rfl
              refine fill_value (v := .pointer (some ⟨ga, oa + j * 3, none⟩)) ho rfl (by rfl) (by clear h hN; have hcst : ∀ v, a.eval (.const v) = v := (fun _ => rfl); have hfun : ∀ f, a.eval (.func f) = .func (.func f) #[] #[] := (fun _ => rfl); generalize a.eval = ρ at *; go_simp) rfl (show W = W from rfl)
            | 4, ho, hui =>
              obtain rfl := Option.some.inj (show some _ = some o from ho)
              have e36 : a.eval (.tmp 36) = .pointer (some ⟨ga, oa + j * 3, none⟩) := h ⟨3, .data⟩ (by simp) rfl
              refine fill_value (v := .pointer (some ⟨ga, oa + j * 3 + 1, none⟩)) ho rfl (by rfl) (by clear h hN; have hcst : ∀ v, a.eval (.const v) = v := (fun _ => rfl); have hfun : ∀ f, a.eval (.func f) = .func (.func f) #[] #[] := (fun _ => rfl); generalize a.eval = ρ at *; go_simp) rfl (show W = W from rfl)
            | 5, ho, hui =>
              obtain rfl := Option.some.inj (show some _ = some o from ho)
              have e37 : a.eval (.tmp 37) = .pointer (some ⟨ga, oa + j * 3 + 1, none⟩) := h ⟨4, .data⟩ (by simp) rfl
              have hc := HC.out W hi
              refine fill_value (v := .slice none 0 0) ho rfl (by rfl) (by clear h hN; have hcst : ∀ v, a.eval (.const v) = v := (fun _ => rfl); have hfun : ∀ f, a.eval (.func f) = .func (.func f) #[] #[] := (fun _ => rfl); generalize a.eval = ρ at *; go_simp) rfl (show W = W from rfl)
            | 6, ho, hui =>
              obtain rfl := Option.some.inj (show some _ = some o from ho)
              have e0 : a.eval (.tmp 0) = .slice (some ⟨ga, oa, none⟩) len0 cap0 := hN.eval 0 (by kernel_rfl)
              refine fill_value (v := .slice (some ⟨ga, oa, none⟩) len0 cap0) ho rfl (by rfl) (by clear h hN; have hcst : ∀ v, a.eval (.const v) = v := (fun _ => rfl); have hfun : ∀ f, a.eval (.func f) = .func (.func f) #[] #[] := (fun _ => rfl); generalize a.eval = ρ at *; go_simp) rfl (show W = W from rfl)
            | 7, ho, hui =>
              obtain rfl := Option.some.inj (show some _ = some o from ho)
              have e8 : a.eval (.tmp 8) = .int .i64 (j : Int) := hN.eval 8 (by kernel_rfl)
              refine fill_value (v := .int .i64 (j : Int)) ho rfl (by rfl) (by clear h hN; have hcst : ∀ v, a.eval (.const v) = v := (fun _ => rfl); have hfun : ∀ f, a.eval (.func f) = .func (.func f) #[] #[] := (fun _ => rfl); generalize a.eval = ρ at *; go_simp) rfl (show W = W from rfl)
            | 8, ho, hui =>
              obtain rfl := Option.some.inj (show some _ = some o from ho)
              have e39 : a.eval (.tmp 39) = .slice (some ⟨ga, oa, none⟩) len0 cap0 := h ⟨6, .data⟩ (by simp) rfl
              have e40 : a.eval (.tmp 40) = .int .i64 (j : Int) := h ⟨7, .data⟩ (by simp) rfl
              refine fill_value (v := .pointer (some ⟨ga, oa + j * 3, none⟩)) ho rfl (by rfl) (by clear h hN; have hcst : ∀ v, a.eval (.const v) = v := (fun _ => rfl); have hfun : ∀ f, a.eval (.func f) = .func (.func f) #[] #[] := (fun _ => rfl); generalize a.eval = ρ at *; go_simp) rfl (show W = W from rfl)
            | 9, ho, hui =>
              obtain rfl := Option.some.inj (show some _ = some o from ho)
              have e41 : a.eval (.tmp 41) = .pointer (some ⟨ga, oa + j * 3, none⟩) := h ⟨8, .data⟩ (by simp) rfl
              refine fill_value (v := .pointer (some ⟨ga, oa + j * 3 + 1, none⟩)) ho rfl (by rfl) (by clear h hN; have hcst : ∀ v, a.eval (.const v) = v := (fun _ => rfl); have hfun : ∀ f, a.eval (.func f) = .func (.func f) #[] #[] := (fun _ => rfl); generalize a.eval = ρ at *; go_simp) rfl (show W = W from rfl)
            | 10, ho, hui =>
              obtain rfl := Option.some.inj (show some _ = some o from ho)
              have e42 : a.eval (.tmp 42) = .pointer (some ⟨ga, oa + j * 3 + 1, none⟩) := h ⟨9, .data⟩ (by simp) rfl
              have hc := HC.out W hi
              refine fill_value (v := .slice none 0 0) ho rfl (by rfl) (by clear h hN; have hcst : ∀ v, a.eval (.const v) = v := (fun _ => rfl); have hfun : ∀ f, a.eval (.func f) = .func (.func f) #[] #[] := (fun _ => rfl); generalize a.eval = ρ at *; go_simp) rfl (show W = W from rfl)
            | 11, ho, hui =>
              obtain rfl := Option.some.inj (show some _ = some o from ho)
              have e43 : a.eval (.tmp 43) = .slice none 0 0 := h ⟨10, .data⟩ (by simp) rfl
              refine fill_value (v := .int .i64 0) ho rfl (by rfl) (by clear h hN; have hcst : ∀ v, a.eval (.const v) = v := (fun _ => rfl); have hfun : ∀ f, a.eval (.func f) = .func (.func f) #[] #[] := (fun _ => rfl); generalize a.eval = ρ at *; go_simp) rfl (show W = W from rfl)
            | 12, ho, hui =>
              obtain rfl := Option.some.inj (show some _ = some o from ho)
              have e44 : a.eval (.tmp 44) = .int .i64 0 := h ⟨11, .data⟩ (by simp) rfl
              refine fill_value (v := .int .i64 0) ho rfl (by rfl) (by clear h hN; have hcst : ∀ v, a.eval (.const v) = v := (fun _ => rfl); have hfun : ∀ f, a.eval (.func f) = .func (.func f) #[] #[] := (fun _ => rfl); generalize a.eval = ρ at *; go_simp) rfl (show W = W from rfl)
            | 13, ho, hui =>
              obtain rfl := Option.some.inj (show some _ = some o from ho)
              have e38 : a.eval (.tmp 38) = .slice none 0 0 := h ⟨5, .data⟩ (by simp) rfl
              have e45 : a.eval (.tmp 45) = .int .i64 0 := h ⟨12, .data⟩ (by simp) rfl
              refine fill_value (v := .slice none 0 0) ho rfl (by rfl) (by clear h hN; have hcst : ∀ v, a.eval (.const v) = v := (fun _ => rfl); have hfun : ∀ f, a.eval (.func f) = .func (.func f) #[] #[] := (fun _ => rfl); generalize a.eval = ρ at *; go_simp) rfl (show W = W from rfl)
            | 14, ho, hui =>
              obtain rfl := Option.some.inj (show some _ = some o from ho)
              have e33 : a.eval (.tmp 33) = .pointer (some ⟨l, 0, none⟩) := h ⟨0, .data⟩ (by simp) rfl
              have e46 : a.eval (.tmp 46) = .slice none 0 0 := h ⟨13, .data⟩ (by simp) rfl
              refine fill_enter (f := 12) (args := #[.pointer (some ⟨l, 0, none⟩), .slice none 0 0]) ho rfl (by rfl) (by clear h hN; have hcst : ∀ v, a.eval (.const v) = v := (fun _ => rfl); have hfun : ∀ f, a.eval (.func f) = .func (.func f) #[] #[] := (fun _ => rfl); generalize a.eval = ρ at *; go_simp) (HAp.out W hui) ?_
              rintro e w2 ⟨ev, rfl, h5, h6⟩
              exact ⟨_, rfl, ⟨_, rfl, h5.out⟩, h6.out⟩
            | nX + 15, ho, hui => exact absurd ho (by simp)
          · intro vals W hi h
            have u0 : vals 0 = .pointer (some ⟨l, 0, none⟩) := h 0 (by decide)
            have u1 : vals 1 = .slice (some ⟨ga, oa, none⟩) len0 cap0 := h 1 (by decide)
            have u2 : vals 2 = .int .i64 (j : Int) := h 2 (by decide)
            have u3 : vals 3 = .pointer (some ⟨ga, oa + j * 3, none⟩) := h 3 (by decide)
            have u4 : vals 4 = .pointer (some ⟨ga, oa + j * 3 + 1, none⟩) := h 4 (by decide)
            have u5 : vals 5 = .slice none 0 0 := h 5 (by decide)
            have u6 : vals 6 = .slice (some ⟨ga, oa, none⟩) len0 cap0 := h 6 (by decide)
            have u7 : vals 7 = .int .i64 (j : Int) := h 7 (by decide)
            have u8 : vals 8 = .pointer (some ⟨ga, oa + j * 3, none⟩) := h 8 (by decide)
            have u9 : vals 9 = .pointer (some ⟨ga, oa + j * 3 + 1, none⟩) := h 9 (by decide)
            have u10 : vals 10 = .slice none 0 0 := h 10 (by decide)
            have u11 : vals 11 = .int .i64 0 := h 11 (by decide)
            have u12 : vals 12 = .int .i64 0 := h 12 (by decide)
            have u13 : vals 13 = .slice none 0 0 := h 13 (by decide)
            obtain ⟨ev, u14, p14⟩ : ∃ ev, vals 14 = .int .i64 ev ∧ ∃ s bs p, Lg w.heap.size W g l 18 s 2 16 1 0 bs p (20 + 20 * (j + 1)) ∧ Quiet s := h 14 (by decide)
            generalize hA : fill _ _ _ _ = A
            have hA2 : (Act.put (Act.put (Act.put (Act.put (Act.put (Act.put (Act.put (Act.put (Act.put (Act.put (Act.put (Act.put (Act.put (Act.put (Act.put (_ : Act) (some 33) (vals 0)) (some 34) (vals 1)) (some 35) (vals 2)) (some 36) (vals 3)) (some 37) (vals 4)) (some 38) (vals 5)) (some 39) (vals 6)) (some 40) (vals 7)) (some 41) (vals 8)) (some 42) (vals 9)) (some 43) (vals 10)) (some 44) (vals 11)) (some 45) (vals 12)) (some 46) (vals 13)) (some 47) (vals 14)) = A := hA
            clear hA h V R U
            rw [u0, u1, u2, u3, u4, u5, u6, u7, u8, u9, u10, u11, u12, u13, u14] at hA2
            simp only [fill, Act.put, List.setIfInBounds_toArray, List.set_cons_succ, List.set_cons_zero] at hA2
            subst hA2
            clear u0 u1 u2 u3 u4 u5 u6 u7 u8 u9 u10 u11 u12 u13 u14
            have HL6 := Lib.hid p14
            have HB6 := Lib.hid hi
            clear p14 hi HC HAp
            go_wp2_with fail
            go_roundw
            case rel => exact ⟨j + 1, by go_num, by omega, HL6, HB6⟩
            case measure => simp [intOf]; omega
        | some y =>
          clear hca
          go_wp2_with fail
          let U : Nat → World → Prop := fun jX W => match jX with | 0 => True | 1 => True | 2 => True | 3 => True | 4 => True | 5 => True | 6 => True | 7 => True | 8 => True | 9 => True | 10 => True | 11 => True | 12 => True | 13 => True | 14 => Below wr.heap.size wr W | _ => True
          let R : Nat → World → World → Prop := fun jX W W2 => match jX with | 0 => W = W2 | 1 => W = W2 | 2 => W = W2 | 3 => W = W2 | 4 => W = W2 | 5 => W = W2 | 6 => W = W2 | 7 => W = W2 | 8 => W = W2 | 9 => W = W2 | 10 => W = W2 | 11 => W = W2 | 12 => W = W2 | 13 => W = W2 | 14 => Below w.heap.size W W2 | _ => W = W2
          let V : Nat → Value → World → Prop := fun jX v W => match jX with | 0 => v = .pointer (some ⟨l, 0, none⟩) | 1 => v = .slice (some ⟨ga, oa, none⟩) len0 cap0 | 2 => v = .int .i64 (j : Int) | 3 => v = .pointer (some ⟨ga, oa + j * 3, none⟩) | 4 => v = .pointer (some ⟨ga, oa + j * 3 + 1, none⟩) | 5 => v = .slice (some y) n c | 6 => v = .slice (some ⟨ga, oa, none⟩) len0 cap0 | 7 => v = .int .i64 (j : Int) | 8 => v = .pointer (some ⟨ga, oa + j * 3, none⟩) | 9 => v = .pointer (some ⟨ga, oa + j * 3 + 1, none⟩) | 10 => v = .slice (some y) n c | 11 => v = .int .i64 (n : Int) | 12 => v = .int .i64 (q : Int) | 13 => v = .slice (some y) q c | 14 => ∃ ev, v = .int .i64 ev ∧ ∃ s bs p, Lg w.heap.size W g l 18 s 2 16 1 0 bs p (20 + 20 * (j + 1)) ∧ Quiet s | _ => True
          refine wp_region_fill2 (by kernel_rfl) U V (fun W => Below w.heap.size w W) R (by kernel_rfl) (by kernel_rfl) (hbl.out.trans ((Below.refl _ _).drew)) ?_ ?_ ?_ ?_ ?_ ?_
          · intro jX
            match jX with
            | 0 => exact trivial
            | 1 => exact trivial
            | 2 => exact trivial
            | 3 => exact trivial
            | 4 => exact trivial
            | 5 => exact trivial
            | 6 => exact trivial
            | 7 => exact trivial
            | 8 => exact trivial
            | 9 => exact trivial
            | 10 => exact trivial
            | 11 => exact trivial
            | 12 => exact trivial
            | 13 => exact trivial
            | 14 => exact (Below.refl _ _).drew
            | nX + 15 => exact trivial
          · intro iX W W2 hr hi
            match iX, hr with
            | 0, hr => exact (show W = W2 from hr) ▸ hi
            | 1, hr => exact (show W = W2 from hr) ▸ hi
            | 2, hr => exact (show W = W2 from hr) ▸ hi
            | 3, hr => exact (show W = W2 from hr) ▸ hi
            | 4, hr => exact (show W = W2 from hr) ▸ hi
            | 5, hr => exact (show W = W2 from hr) ▸ hi
            | 6, hr => exact (show W = W2 from hr) ▸ hi
            | 7, hr => exact (show W = W2 from hr) ▸ hi
            | 8, hr => exact (show W = W2 from hr) ▸ hi
            | 9, hr => exact (show W = W2 from hr) ▸ hi
            | 10, hr => exact (show W = W2 from hr) ▸ hi
            | 11, hr => exact (show W = W2 from hr) ▸ hi
            | 12, hr => exact (show W = W2 from hr) ▸ hi
            | 13, hr => exact (show W = W2 from hr) ▸ hi
            | 14, hr => exact hi.trans hr
            | nX + 15, hr => exact (show W = W2 from hr) ▸ hi
          · intro iX jX W W2 hij hi hui hr h
            match iX, hij, hui, hr with
            | 0, hij, hui, hr => exact (show W = W2 from hr) ▸ h
            | 1, hij, hui, hr => exact (show W = W2 from hr) ▸ h
            | 2, hij, hui, hr => exact (show W = W2 from hr) ▸ h
            | 3, hij, hui, hr => exact (show W = W2 from hr) ▸ h
            | 4, hij, hui, hr => exact (show W = W2 from hr) ▸ h
            | 5, hij, hui, hr => exact (show W = W2 from hr) ▸ h
            | 6, hij, hui, hr => exact (show W = W2 from hr) ▸ h
            | 7, hij, hui, hr => exact (show W = W2 from hr) ▸ h
            | 8, hij, hui, hr => exact (show W = W2 from hr) ▸ h
            | 9, hij, hui, hr => exact (show W = W2 from hr) ▸ h
            | 10, hij, hui, hr => exact (show W = W2 from hr) ▸ h
            | 11, hij, hui, hr => exact (show W = W2 from hr) ▸ h
            | 12, hij, hui, hr => exact (show W = W2 from hr) ▸ h
            | 13, hij, hui, hr => exact (show W = W2 from hr) ▸ h
            | 14, hij, hui, hr =>
              match jX, hij, h with
              | 0, hij, h => exact h
              | 1, hij, h => exact h
              | 2, hij, h => exact h
              | 3, hij, h => exact h
              | 4, hij, h => exact h
              | 5, hij, h => exact h
              | 6, hij, h => exact h
              | 7, hij, h => exact h
              | 8, hij, h => exact h
              | 9, hij, h => exact h
              | 10, hij, h => exact h
              | 11, hij, h => exact h
              | 12, hij, h => exact h
              | 13, hij, h => exact h
              | 14, hij, h => exact absurd rfl hij
              | nX + 15, hij, h => exact h
            | nX + 15, hij, hui, hr => exact (show W = W2 from hr) ▸ h
          · intro iX jX v W W2 hij hi hui hr h
            match iX, hij, hui, hr with
            | 0, hij, hui, hr => exact (show W = W2 from hr) ▸ h
            | 1, hij, hui, hr => exact (show W = W2 from hr) ▸ h
            | 2, hij, hui, hr => exact (show W = W2 from hr) ▸ h
            | 3, hij, hui, hr => exact (show W = W2 from hr) ▸ h
            | 4, hij, hui, hr => exact (show W = W2 from hr) ▸ h
            | 5, hij, hui, hr => exact (show W = W2 from hr) ▸ h
            | 6, hij, hui, hr => exact (show W = W2 from hr) ▸ h
            | 7, hij, hui, hr => exact (show W = W2 from hr) ▸ h
            | 8, hij, hui, hr => exact (show W = W2 from hr) ▸ h
            | 9, hij, hui, hr => exact (show W = W2 from hr) ▸ h
            | 10, hij, hui, hr => exact (show W = W2 from hr) ▸ h
            | 11, hij, hui, hr => exact (show W = W2 from hr) ▸ h
            | 12, hij, hui, hr => exact (show W = W2 from hr) ▸ h
            | 13, hij, hui, hr => exact (show W = W2 from hr) ▸ h
            | 14, hij, hui, hr =>
              match jX, hij, h with
              | 0, hij, h => exact h
              | 1, hij, h => exact h
              | 2, hij, h => exact h
              | 3, hij, h => exact h
              | 4, hij, h => exact h
              | 5, hij, h => exact h
              | 6, hij, h => exact h
              | 7, hij, h => exact h
              | 8, hij, h => exact h
              | 9, hij, h => exact h
              | 10, hij, h => exact h
              | 11, hij, h => exact h
              | 12, hij, h => exact h
              | 13, hij, h => exact h
              | 14, hij, h => exact absurd rfl hij
              | nX + 15, hij, h => exact h
            | nX + 15, hij, hui, hr => exact (show W = W2 from hr) ▸ h
          · intro iX o ho a W hN hi hui h
            match iX, ho, hui with
            | 0, ho, hui =>
              obtain rfl := Option.some.inj (show some _ = some o from ho)
              have e6 : a.eval (.tmp 6) = .pointer (some ⟨l, 0, none⟩) := hN.eval 6 (by kernel_rfl)
              refine fill_value (v := .pointer (some ⟨l, 0, none⟩)) ho rfl (by rfl) (by clear h hN; have hcst : ∀ v, a.eval (.const v) = v := (fun _ => rfl); have hfun : ∀ f, a.eval (.func f) = .func (.func f) #[] #[] := (fun _ => rfl); generalize a.eval = ρ at *; go_simp) rfl (show W = W from rfl)
            | 1, ho, hui =>
              obtain rfl := Option.some.inj (show some _ = some o from ho)
              have e0 : a.eval (.tmp 0) = .slice (some ⟨ga, oa, none⟩) len0 cap0 := hN.eval 0 (by kernel_rfl)
              refine fill_value (v := .slice (some ⟨ga, oa, none⟩) len0 cap0) ho rfl (by rfl) (by clear h hN; have hcst : ∀ v, a.eval (.const v) = v := (fun _ => rfl); have hfun : ∀ f, a.eval (.func f) = .func (.func f) #[] #[] := (fun _ => rfl); generalize a.eval = ρ at *; go_simp) rfl (show W = W from rfl)
            | 2, ho, hui =>
              obtain rfl := Option.some.inj (show some _ = some o from ho)
              have e8 : a.eval (.tmp 8) = .int .i64 (j : Int) := hN.eval 8 (by kernel_rfl)
              refine fill_value (v := .int .i64 (j : Int)) ho rfl (by rfl) (by clear h hN; have hcst : ∀ v, a.eval (.const v) = v := (fun _ => rfl); have hfun : ∀ f, a.eval (.func f) = .func (.func f) #[] #[] := (fun _ => rfl); generalize a.eval = ρ at *; go_simp) rfl (show W = W from rfl)
            | 3, ho, hui =>
              obtain rfl := Option.some.inj (show some _ = some o from ho)
              have e34 : a.eval (.tmp 34) = .slice (some ⟨ga, oa, none⟩) len0 cap0 := h ⟨1, .data⟩ (by simp) rfl
              have e35 : a.eval (.tmp 35) = .int .i64 (j : Int) := h ⟨2, .data⟩ (by simp) rfl
              refine fill_value (v := .pointer (some ⟨ga, oa + j * 3, none⟩)) ho rfl (by rfl) (by clear h hN; have hcst : ∀ v, a.eval (.const v) = v := (fun _ => rfl); have hfun : ∀ f, a.eval (.func f) = .func (.func f) #[] #[] := (fun _ => rfl); generalize a.eval = ρ at *; go_simp) rfl (show W = W from rfl)
            | 4, ho, hui =>
              obtain rfl := Option.some.inj (show some _ = some o from ho)
              have e36 : a.eval (.tmp 36) = .pointer (some ⟨ga, oa + j * 3, none⟩) := h ⟨3, .data⟩ (by simp) rfl
              refine fill_value (v := .pointer (some ⟨ga, oa + j * 3 + 1, none⟩)) ho rfl (by rfl) (by clear h hN; have hcst : ∀ v, a.eval (.const v) = v := (fun _ => rfl); have hfun : ∀ f, a.eval (.func f) = .func (.func f) #[] #[] := (fun _ => rfl); generalize a.eval = ρ at *; go_simp) rfl (show W = W from rfl)
            | 5, ho, hui =>
              obtain rfl := Option.some.inj (show some _ = some o from ho)
              have e37 : a.eval (.tmp 37) = .pointer (some ⟨ga, oa + j * 3 + 1, none⟩) := h ⟨4, .data⟩ (by simp) rfl
              have hc := HC.out W hi
              refine fill_value (v := .slice (some y) n c) ho rfl (by rfl) (by clear h hN; have hcst : ∀ v, a.eval (.const v) = v := (fun _ => rfl); have hfun : ∀ f, a.eval (.func f) = .func (.func f) #[] #[] := (fun _ => rfl); generalize a.eval = ρ at *; go_simp) rfl (show W = W from rfl)
            | 6, ho, hui =>
              obtain rfl := Option.some.inj (show some _ = some o from ho)
              have e0 : a.eval (.tmp 0) = .slice (some ⟨ga, oa, none⟩) len0 cap0 := hN.eval 0 (by kernel_rfl)
              refine fill_value (v := .slice (some ⟨ga, oa, none⟩) len0 cap0) ho rfl (by rfl) (by clear h hN; have hcst : ∀ v, a.eval (.const v) = v := (fun _ => rfl); have hfun : ∀ f, a.eval (.func f) = .func (.func f) #[] #[] := (fun _ => rfl); generalize a.eval = ρ at *; go_simp) rfl (show W = W from rfl)
            | 7, ho, hui =>
              obtain rfl := Option.some.inj (show some _ = some o from ho)
              have e8 : a.eval (.tmp 8) = .int .i64 (j : Int) := hN.eval 8 (by kernel_rfl)
              refine fill_value (v := .int .i64 (j : Int)) ho rfl (by rfl) (by clear h hN; have hcst : ∀ v, a.eval (.const v) = v := (fun _ => rfl); have hfun : ∀ f, a.eval (.func f) = .func (.func f) #[] #[] := (fun _ => rfl); generalize a.eval = ρ at *; go_simp) rfl (show W = W from rfl)
            | 8, ho, hui =>
              obtain rfl := Option.some.inj (show some _ = some o from ho)
              have e39 : a.eval (.tmp 39) = .slice (some ⟨ga, oa, none⟩) len0 cap0 := h ⟨6, .data⟩ (by simp) rfl
              have e40 : a.eval (.tmp 40) = .int .i64 (j : Int) := h ⟨7, .data⟩ (by simp) rfl
              refine fill_value (v := .pointer (some ⟨ga, oa + j * 3, none⟩)) ho rfl (by rfl) (by clear h hN; have hcst : ∀ v, a.eval (.const v) = v := (fun _ => rfl); have hfun : ∀ f, a.eval (.func f) = .func (.func f) #[] #[] := (fun _ => rfl); generalize a.eval = ρ at *; go_simp) rfl (show W = W from rfl)
            | 9, ho, hui =>
              obtain rfl := Option.some.inj (show some _ = some o from ho)
              have e41 : a.eval (.tmp 41) = .pointer (some ⟨ga, oa + j * 3, none⟩) := h ⟨8, .data⟩ (by simp) rfl
              refine fill_value (v := .pointer (some ⟨ga, oa + j * 3 + 1, none⟩)) ho rfl (by rfl) (by clear h hN; have hcst : ∀ v, a.eval (.const v) = v := (fun _ => rfl); have hfun : ∀ f, a.eval (.func f) = .func (.func f) #[] #[] := (fun _ => rfl); generalize a.eval = ρ at *; go_simp) rfl (show W = W from rfl)
            | 10, ho, hui =>
              obtain rfl := Option.some.inj (show some _ = some o from ho)
              have e42 : a.eval (.tmp 42) = .pointer (some ⟨ga, oa + j * 3 + 1, none⟩) := h ⟨9, .data⟩ (by simp) rfl
              have hc := HC.out W hi
              refine fill_value (v := .slice (some y) n c) ho rfl (by rfl) (by clear h hN; have hcst : ∀ v, a.eval (.const v) = v := (fun _ => rfl); have hfun : ∀ f, a.eval (.func f) = .func (.func f) #[] #[] := (fun _ => rfl); generalize a.eval = ρ at *; go_simp) rfl (show W = W from rfl)
            | 11, ho, hui =>
              obtain rfl := Option.some.inj (show some _ = some o from ho)
              have e43 : a.eval (.tmp 43) = .slice (some y) n c := h ⟨10, .data⟩ (by simp) rfl
              refine fill_value (v := .int .i64 (n : Int)) ho rfl (by rfl) (by clear h hN; have hcst : ∀ v, a.eval (.const v) = v := (fun _ => rfl); have hfun : ∀ f, a.eval (.func f) = .func (.func f) #[] #[] := (fun _ => rfl); generalize a.eval = ρ at *; go_simp) rfl (show W = W from rfl)
            | 12, ho, hui =>
              obtain rfl := Option.some.inj (show some _ = some o from ho)
              have e44 : a.eval (.tmp 44) = .int .i64 (n : Int) := h ⟨11, .data⟩ (by simp) rfl
              refine fill_value (v := .int .i64 (q : Int)) ho rfl (by rfl) (by clear h hN; have hcst : ∀ v, a.eval (.const v) = v := (fun _ => rfl); have hfun : ∀ f, a.eval (.func f) = .func (.func f) #[] #[] := (fun _ => rfl); generalize a.eval = ρ at *; go_simp) rfl (show W = W from rfl)
            | 13, ho, hui =>
              obtain rfl := Option.some.inj (show some _ = some o from ho)
              have e38 : a.eval (.tmp 38) = .slice (some y) n c := h ⟨5, .data⟩ (by simp) rfl
              have e45 : a.eval (.tmp 45) = .int .i64 (q : Int) := h ⟨12, .data⟩ (by simp) rfl
              refine fill_value (v := .slice (some y) q c) ho rfl (by rfl) (by clear h hN; have hcst : ∀ v, a.eval (.const v) = v := (fun _ => rfl); have hfun : ∀ f, a.eval (.func f) = .func (.func f) #[] #[] := (fun _ => rfl); generalize a.eval = ρ at *; go_simp) rfl (show W = W from rfl)
            | 14, ho, hui =>
              obtain rfl := Option.some.inj (show some _ = some o from ho)
              have e33 : a.eval (.tmp 33) = .pointer (some ⟨l, 0, none⟩) := h ⟨0, .data⟩ (by simp) rfl
              have e46 : a.eval (.tmp 46) = .slice (some y) q c := h ⟨13, .data⟩ (by simp) rfl
              refine fill_enter (f := 12) (args := #[.pointer (some ⟨l, 0, none⟩), .slice (some y) q c]) ho rfl (by rfl) (by clear h hN; have hcst : ∀ v, a.eval (.const v) = v := (fun _ => rfl); have hfun : ∀ f, a.eval (.func f) = .func (.func f) #[] #[] := (fun _ => rfl); generalize a.eval = ρ at *; go_simp) (HAp.out W hui) ?_
              rintro e w2 ⟨ev, rfl, h5, h6⟩
              exact ⟨_, rfl, ⟨_, rfl, h5.out⟩, h6.out⟩
            | nX + 15, ho, hui => exact absurd ho (by simp)
          · intro vals W hi h
            have u0 : vals 0 = .pointer (some ⟨l, 0, none⟩) := h 0 (by decide)
            have u1 : vals 1 = .slice (some ⟨ga, oa, none⟩) len0 cap0 := h 1 (by decide)
            have u2 : vals 2 = .int .i64 (j : Int) := h 2 (by decide)
            have u3 : vals 3 = .pointer (some ⟨ga, oa + j * 3, none⟩) := h 3 (by decide)
            have u4 : vals 4 = .pointer (some ⟨ga, oa + j * 3 + 1, none⟩) := h 4 (by decide)
            have u5 : vals 5 = .slice (some y) n c := h 5 (by decide)
            have u6 : vals 6 = .slice (some ⟨ga, oa, none⟩) len0 cap0 := h 6 (by decide)
            have u7 : vals 7 = .int .i64 (j : Int) := h 7 (by decide)
            have u8 : vals 8 = .pointer (some ⟨ga, oa + j * 3, none⟩) := h 8 (by decide)
            have u9 : vals 9 = .pointer (some ⟨ga, oa + j * 3 + 1, none⟩) := h 9 (by decide)
            have u10 : vals 10 = .slice (some y) n c := h 10 (by decide)
            have u11 : vals 11 = .int .i64 (n : Int) := h 11 (by decide)
            have u12 : vals 12 = .int .i64 (q : Int) := h 12 (by decide)
            have u13 : vals 13 = .slice (some y) q c := h 13 (by decide)
            obtain ⟨ev, u14, p14⟩ : ∃ ev, vals 14 = .int .i64 ev ∧ ∃ s bs p, Lg w.heap.size W g l 18 s 2 16 1 0 bs p (20 + 20 * (j + 1)) ∧ Quiet s := h 14 (by decide)
            generalize hA : fill _ _ _ _ = A
            have hA2 : (Act.put (Act.put (Act.put (Act.put (Act.put (Act.put (Act.put (Act.put (Act.put (Act.put (Act.put (Act.put (Act.put (Act.put (Act.put (_ : Act) (some 33) (vals 0)) (some 34) (vals 1)) (some 35) (vals 2)) (some 36) (vals 3)) (some 37) (vals 4)) (some 38) (vals 5)) (some 39) (vals 6)) (some 40) (vals 7)) (some 41) (vals 8)) (some 42) (vals 9)) (some 43) (vals 10)) (some 44) (vals 11)) (some 45) (vals 12)) (some 46) (vals 13)) (some 47) (vals 14)) = A := hA
            clear hA h V R U
            rw [u0, u1, u2, u3, u4, u5, u6, u7, u8, u9, u10, u11, u12, u13, u14] at hA2
            simp only [fill, Act.put, List.setIfInBounds_toArray, List.set_cons_succ, List.set_cons_zero] at hA2
            subst hA2
            clear u0 u1 u2 u3 u4 u5 u6 u7 u8 u9 u10 u11 u12 u13 u14
            have HL6 := Lib.hid p14
            have HB6 := Lib.hid hi
            clear p14 hi HC HAp
            go_wp2_with fail
            go_roundw
            case rel => exact ⟨j + 1, by go_num, by omega, HL6, HB6⟩
            case measure => simp [intOf]; omega
      · obtain rfl : j = 5 := by omega
        have hltI : ((5 : Nat) : Int) < (len0 : Int) := by omega
        have HL3 : Hid (∃ s bs p k, Lg w.heap.size wr g l 18 s 2 16 1 0 bs p k ∧ Quiet s ∧ k ≤ 200 + 20 * p) := Lib.hid (by
          obtain ⟨s, bs, p, h1, h2⟩ := hlg.out
          exact ⟨s, bs, p, _, h1, h2, by omega⟩)
        clear HL2 HB2 hlg
        go_wp2_with fail
        go_loopw [9] (fun _ wr => Hid (∃ s bs p k, Lg w.heap.size wr g l 18 s 2 16 1 0 bs p k ∧ Quiet s ∧ k ≤ 200 + 20 * p) ∧ Hid (Below w.heap.size w wr)) (fun _ wr => 16 - nxt wr l)
        case atStart => exact ⟨HL3, hbl⟩
        case round =>
          obtain ⟨hlg, hbl⟩ := hrel
          obtain ⟨s, bs, p, k, h1, h2, h3⟩ := hlg.out
          have hge := h1.inv.ge
          have hp16 : p ≤ 16 := hge.2
          have hp4 : 4 ≤ p := hge.1
          have HLg := Lib.hid h1
          have HQt := Lib.hid h2
          have HK := Lib.hid h3
          have HNx : Hid (nxt wr l = p) := Lib.hid (nxt_log h1.log)
          have HRm : Hid (∀ W, Below wr.heap.size wr W → Calls Tryd.prog 15 #[.pointer (some ⟨l, 0, none⟩)] W fun e w' => e = .returned (.int .i64 (roomI p 16)) ∧ Below W.heap.size W w') := Lib.hid fun W hW => room_any p 16 hp16 (by decide) (h1.below hW).log
          clear h1 h2 h3 hge hlg
          by_cases hp : p < 16
          · obtain ⟨N, hN⟩ : ∃ N : Nat, N = (15 - p) * 511 := ⟨_, rfl⟩
            have hrm : roomI p 16 = (N : Int) := by unfold roomI; rw [if_neg (by omega)]; omega
            rw [hrm] at HRm
            obtain ⟨N1, hN1⟩ : ∃ N1, N + 1 = N1 := ⟨_, rfl⟩
            have hN6 : N ≤ 5621 := by omega
            obtain ⟨kk, hk1, hk2⟩ := Fw.mod_cut1 a1 N1 (by omega) (by omega)
            obtain ⟨M, hM⟩ : ∃ M, N - kk = M := ⟨_, rfl⟩
            have HNN : Hid (N = (15 - p) * 511 ∧ N + 1 = N1 ∧ M ≤ N ∧ N ≤ 5621) := Lib.hid ⟨hN, hN1, by omega, hN6⟩
            have hw1 : IntKind.i64.wrap ((N : Int) + 1) = (N1 : Int) := by rw [IntKind.wrap_i64]; omega
            have hwu : IntKind.u64.wrap (N1 : Int) = (N1 : Int) := by rw [IntKind.wrap_u64]; omega
            have hw2 : IntKind.i64.wrap ((N : Int) - (kk : Int)) = (M : Int) := by rw [IntKind.wrap_i64]; omega
            have hge0 : (0 : Int) ≤ (N : Int) := by omega
            have hN0 : ¬ N1 = 0 := by omega
            have hN0' : ¬ (N1 : Int) = 0 := by omega
            have hm1 := fun W => HMk.out N1 (by omega) W
            have hm2 := fun W => HMk.out M (by omega) W
            clear hrm hN hN1 hN6 hM hk2
            go_wp2_with fail
            refine (HRm.out wr (Below.refl _ _)).mono ?_
            rintro e wa ⟨rfl, hba⟩
            have HBa := Lib.hid hba
            clear hba
            go_wp2_with fail
            refine (HRm.out wa HBa.out).mono ?_
            rintro e wb ⟨rfl, hbb⟩
            have HBb := Lib.hid (HBa.out.trans (hbb.mono HBa.out.size))
            clear hbb
            go_wp2_with fail
            have HF1 : Hid (Calls Tryd.prog 12 #[.pointer (some ⟨l, 0, none⟩), .slice (some ⟨wb.heap.size, 0, none⟩) N1 N1] (wb.alloc (.cells (Fc.cells (List.replicate N1 0)).toArray 5)) fun e w' => e = .returned (.int .i64 7) ∧ Hid (Below wr.heap.size wr w')) := Lib.hid (by
              have hA : Below wb.heap.size wb (wb.alloc (.cells (Fc.cells (List.replicate N1 0)).toArray 5)) := (Below.refl _ _).alloc (Nat.le_refl _) _
              have hA2 := HBb.out.trans (hA.mono HBb.out.size)
              have hnn := HNN.out
              refine (lg_full (HLg.out.below hA2) N1 N1 (some ⟨wb.heap.size, 0, none⟩) (by omega) (by unfold need; omega)).mono ?_
              rintro e w' ⟨rfl, h5⟩
              exact ⟨rfl, Lib.hid (hA2.trans (h5.mono hA2.size))⟩)
            refine HF1.out.mono ?_
            rintro e wc ⟨rfl, HBc⟩
            go_wp2_with fail
            refine (HRm.out wc HBc.out).mono ?_
            rintro e wd ⟨rfl, hbd⟩
            have HBd := Lib.hid (HBc.out.trans (hbd.mono HBc.out.size))
            clear hbd HF1
            go_wp2_with fail
            skip
            have HF2 : Hid (Calls Tryd.prog 12 #[.pointer (some ⟨l, 0, none⟩), .slice (some ⟨wd.heap.size, 0, none⟩) M M] (wd.alloc (.cells (Fc.cells (List.replicate M 0)).toArray 5)) fun e w' => e = .returned (.int .i64 0) ∧ Hid (∃ s bs k, Lg w.heap.size w' g l 18 s 2 16 1 0 bs (p + need M) k ∧ Quiet s ∧ k ≤ 200 + 20 * (p + need M)) ∧ Hid (Below w.heap.size w w')) := Lib.hid (by
              have hA : Below wd.heap.size wd (wd.alloc (.cells (Fc.cells (List.replicate M 0)).toArray 5)) := (Below.refl _ _).alloc (Nat.le_refl _) _
              have hA2 := HBd.out.trans (hA.mono HBd.out.size)
              have hnn := HNN.out
              have hkk := HK.out
              refine (lg_append_q (HLg.out.below hA2) HQt.out (by omega) (List.replicate M 0) M M (some ⟨wd.heap.size, 0, none⟩) (by simp) (by omega) (Nat.le_refl _) (fun x hx => by rw [(List.mem_replicate.1 hx).2]; decide) (row_zeros _ M wd) (by unfold need; omega)).mono ?_
              rintro e w' ⟨rfl, h5, h6⟩
              obtain ⟨s', h7, h8⟩ := h5.out
              exact ⟨rfl, Lib.hid ⟨s', _, _, h7, h8, by unfold need; omega⟩, Lib.hid ((hbl.out.trans (hA2.mono hbl.out.size)).trans h6.out)⟩)
            refine HF2.out.mono ?_
            rintro e we ⟨rfl, hlg5, hbl5⟩
            have HRm2 : Hid (Calls Tryd.prog 15 #[.pointer (some ⟨l, 0, none⟩)] we fun e w' => ∃ r : Int, e = .returned (.int .i64 r) ∧ r < (N : Int) ∧ Hid (Below we.heap.size we w')) := Lib.hid (by
              obtain ⟨s, bs, k, h5, h6, h7⟩ := hlg5.out
              have hnn := HNN.out
              refine (room_any (p + need M) 16 (by unfold need; omega) (by decide) h5.log).mono ?_
              rintro e w' ⟨rfl, h8⟩
              refine ⟨_, rfl, ?_, Lib.hid h8⟩
              unfold roomI
              split
              · omega
              · unfold need; omega)
            have HNx2 : Hid (∀ W, Below we.heap.size we W → p < nxt W l ∧ nxt W l ≤ 16) := Lib.hid fun W hW => by
              obtain ⟨s, bs, k, h5, h6, h7⟩ := hlg5.out
              have h9 := nxt_log (h5.below hW).log
              have h10 := h5.inv.ge.2
              rw [h9]
              exact ⟨by unfold need; omega, h10⟩
            clear HF2 HRm
            go_wp2_with fail
            refine HRm2.out.mono ?_
            rintro e wf ⟨r, rfl, hr, hbf⟩
            have hlg6 : Hid (∃ s bs p k, Lg w.heap.size wf g l 18 s 2 16 1 0 bs p k ∧ Quiet s ∧ k ≤ 200 + 20 * p) := Lib.hid (by
              obtain ⟨s, bs, k, h5, h6, h7⟩ := hlg5.out
              exact ⟨s, bs, _, k, h5.below hbf.out, h6, h7⟩)
            have hbl6 := Lib.hid (hbl5.out.trans (hbf.out.mono hbl5.out.size))
            have hnx6 := Lib.hid (HNx2.out wf hbf.out)
            have hrn : ¬ ((N : Int) ≤ r) := by omega
            go_wp2_with fail
            go_roundw
            case rel => exact ⟨hlg6, hbl6⟩
            case measure => have h5 := hnx6.out; have h6 := HNx.out; omega
          · obtain rfl : p = 16 := by omega
            have hrm : roomI 16 16 = -1 := if_pos rfl
            rw [hrm] at HRm
            have HAg : Hid (∀ W, Below wr.heap.size wr W → Calls Tryd.prog 14 #[.pointer (some ⟨l, 0, none⟩)] W fun e w' => e = .returned (.int .i64 1) ∧ W = w') := Lib.hid fun W hW => age_any (HLg.out.below hW).log
            have HF1 : Hid (∀ W, Below wr.heap.size wr W → Calls Tryd.prog 12 #[.pointer (some ⟨l, 0, none⟩), .slice none 0 0] W fun e w' => e = .returned (.int .i64 7) ∧ Hid (Below wr.heap.size wr w')) := Lib.hid fun W hW => by
              refine (lg_full (HLg.out.below hW) 0 0 none (by decide) (by decide)).mono ?_
              rintro e w' ⟨rfl, h5⟩
              exact ⟨rfl, Lib.hid (hW.trans (h5.mono hW.size))⟩
            have HTr : Hid (∀ W, Below wr.heap.size wr W → Calls Tryd.prog 13 #[.pointer (some ⟨l, 0, none⟩)] W fun e w' => e = .returned (.int .i64 0) ∧ Hid (∃ s k, Lg w.heap.size w' g l 18 s 2 16 2 1 [] 4 k ∧ Quiet s ∧ k ≤ 1000) ∧ Hid (Below w.heap.size w w')) := Lib.hid fun W hW => by
              have hkk := HK.out
              refine (lg_trunc_q (HLg.out.below hW) HQt.out (by omega) (by decide)).mono ?_
              rintro e w' ⟨rfl, h5, h6⟩
              obtain ⟨s', h7, h8⟩ := h5.out
              exact ⟨rfl, Lib.hid ⟨s', _, h7, h8, by omega⟩, Lib.hid ((hbl.out.trans (hW.mono hbl.out.size)).trans h6.out)⟩
            clear hrm hp
            go_wp2_with fail
            refine (HRm.out wr (Below.refl _ _)).mono ?_
            rintro e wa ⟨rfl, hba⟩
            have HBa := Lib.hid hba
            clear hba HRm
            go_wp2_with fail
            refine (HAg.out wa HBa.out).mono ?_
            rintro e wb ⟨rfl, rfl⟩
            go_wp2_with fail
            refine (HF1.out wa HBa.out).mono ?_
            rintro e wc ⟨rfl, HBc⟩
            go_wp2_with fail
            refine (HTr.out wc HBc.out).mono ?_
            rintro e wd ⟨rfl, hlg5, hbl5⟩
            have HAg2 : Hid (Calls Tryd.prog 14 #[.pointer (some ⟨l, 0, none⟩)] wd fun e w' => e = .returned (.int .i64 2) ∧ wd = w') := Lib.hid (by
              obtain ⟨s, k, h5, h6, h7⟩ := hlg5.out
              exact age_any h5.log)
            have HF3 : Hid (Calls Tryd.prog 12 #[.pointer (some ⟨l, 0, none⟩), .slice none 0 0] wd fun e w' => e = .returned (.int .i64 0) ∧ Hid (Below w.heap.size w w')) := Lib.hid (by
              obtain ⟨s, k, h5, h6, h7⟩ := hlg5.out
              refine (lg_append_q h5 h6 (by omega) [] 0 0 none rfl (by decide) (by decide) (by simp) (row_nil _ _ _) (by decide)).mono ?_
              rintro e w' ⟨rfl, _, h8⟩
              exact ⟨rfl, Lib.hid (hbl5.out.trans h8.out)⟩)
            clear HAg HF1 HTr
            go_wp2_with fail
            refine HAg2.out.mono ?_
            rintro e we ⟨rfl, rfl⟩
            go_wp2_with fail
            refine HF3.out.mono ?_
            rintro e wf ⟨rfl, hbf⟩
            go_wp2_with fail
            go_ret
            exact ⟨rfl, hbf.out⟩
    · have hltI : ¬ ((j : Int) < (len0 : Int)) := by omega
      have HL3 : Hid (∃ s bs p k, Lg w.heap.size wr g l 18 s 2 16 1 0 bs p k ∧ Quiet s ∧ k ≤ 200 + 20 * p) := Lib.hid (by
        obtain ⟨s, bs, p, h1, h2⟩ := hlg.out
        exact ⟨s, bs, p, _, h1, h2, by omega⟩)
      clear HL2 HB2 hlg
      go_wp2_with fail
      go_loopw [9] (fun _ wr => Hid (∃ s bs p k, Lg w.heap.size wr g l 18 s 2 16 1 0 bs p k ∧ Quiet s ∧ k ≤ 200 + 20 * p) ∧ Hid (Below w.heap.size w wr)) (fun _ wr => 16 - nxt wr l)
      case atStart => exact ⟨HL3, hbl⟩
      case round =>
        obtain ⟨hlg, hbl⟩ := hrel
        obtain ⟨s, bs, p, k, h1, h2, h3⟩ := hlg.out
        have hge := h1.inv.ge
        have hp16 : p ≤ 16 := hge.2
        have hp4 : 4 ≤ p := hge.1
        have HLg := Lib.hid h1
        have HQt := Lib.hid h2
        have HK := Lib.hid h3
        have HNx : Hid (nxt wr l = p) := Lib.hid (nxt_log h1.log)
        have HRm : Hid (∀ W, Below wr.heap.size wr W → Calls Tryd.prog 15 #[.pointer (some ⟨l, 0, none⟩)] W fun e w' => e = .returned (.int .i64 (roomI p 16)) ∧ Below W.heap.size W w') := Lib.hid fun W hW => room_any p 16 hp16 (by decide) (h1.below hW).log
        clear h1 h2 h3 hge hlg
        by_cases hp : p < 16
        · obtain ⟨N, hN⟩ : ∃ N : Nat, N = (15 - p) * 511 := ⟨_, rfl⟩
          have hrm : roomI p 16 = (N : Int) := by unfold roomI; rw [if_neg (by omega)]; omega
          rw [hrm] at HRm
          obtain ⟨N1, hN1⟩ : ∃ N1, N + 1 = N1 := ⟨_, rfl⟩
          have hN6 : N ≤ 5621 := by omega
          obtain ⟨kk, hk1, hk2⟩ := Fw.mod_cut1 a1 N1 (by omega) (by omega)
          obtain ⟨M, hM⟩ : ∃ M, N - kk = M := ⟨_, rfl⟩
          have HNN : Hid (N = (15 - p) * 511 ∧ N + 1 = N1 ∧ M ≤ N ∧ N ≤ 5621) := Lib.hid ⟨hN, hN1, by omega, hN6⟩
          have hw1 : IntKind.i64.wrap ((N : Int) + 1) = (N1 : Int) := by rw [IntKind.wrap_i64]; omega
          have hwu : IntKind.u64.wrap (N1 : Int) = (N1 : Int) := by rw [IntKind.wrap_u64]; omega
          have hw2 : IntKind.i64.wrap ((N : Int) - (kk : Int)) = (M : Int) := by rw [IntKind.wrap_i64]; omega
          have hge0 : (0 : Int) ≤ (N : Int) := by omega
          have hN0 : ¬ N1 = 0 := by omega
          have hN0' : ¬ (N1 : Int) = 0 := by omega
          have hm1 := fun W => HMk.out N1 (by omega) W
          have hm2 := fun W => HMk.out M (by omega) W
          clear hrm hN hN1 hN6 hM hk2
          go_wp2_with fail
          refine (HRm.out wr (Below.refl _ _)).mono ?_
          rintro e wa ⟨rfl, hba⟩
          have HBa := Lib.hid hba
          clear hba
          go_wp2_with fail
          refine (HRm.out wa HBa.out).mono ?_
          rintro e wb ⟨rfl, hbb⟩
          have HBb := Lib.hid (HBa.out.trans (hbb.mono HBa.out.size))
          clear hbb
          go_wp2_with fail
          have HF1 : Hid (Calls Tryd.prog 12 #[.pointer (some ⟨l, 0, none⟩), .slice (some ⟨wb.heap.size, 0, none⟩) N1 N1] (wb.alloc (.cells (Fc.cells (List.replicate N1 0)).toArray 5)) fun e w' => e = .returned (.int .i64 7) ∧ Hid (Below wr.heap.size wr w')) := Lib.hid (by
            have hA : Below wb.heap.size wb (wb.alloc (.cells (Fc.cells (List.replicate N1 0)).toArray 5)) := (Below.refl _ _).alloc (Nat.le_refl _) _
            have hA2 := HBb.out.trans (hA.mono HBb.out.size)
            have hnn := HNN.out
            refine (lg_full (HLg.out.below hA2) N1 N1 (some ⟨wb.heap.size, 0, none⟩) (by omega) (by unfold need; omega)).mono ?_
            rintro e w' ⟨rfl, h5⟩
            exact ⟨rfl, Lib.hid (hA2.trans (h5.mono hA2.size))⟩)
          refine HF1.out.mono ?_
          rintro e wc ⟨rfl, HBc⟩
          go_wp2_with fail
          refine (HRm.out wc HBc.out).mono ?_
          rintro e wd ⟨rfl, hbd⟩
          have HBd := Lib.hid (HBc.out.trans (hbd.mono HBc.out.size))
          clear hbd HF1
          go_wp2_with fail
          skip
          have HF2 : Hid (Calls Tryd.prog 12 #[.pointer (some ⟨l, 0, none⟩), .slice (some ⟨wd.heap.size, 0, none⟩) M M] (wd.alloc (.cells (Fc.cells (List.replicate M 0)).toArray 5)) fun e w' => e = .returned (.int .i64 0) ∧ Hid (∃ s bs k, Lg w.heap.size w' g l 18 s 2 16 1 0 bs (p + need M) k ∧ Quiet s ∧ k ≤ 200 + 20 * (p + need M)) ∧ Hid (Below w.heap.size w w')) := Lib.hid (by
            have hA : Below wd.heap.size wd (wd.alloc (.cells (Fc.cells (List.replicate M 0)).toArray 5)) := (Below.refl _ _).alloc (Nat.le_refl _) _
            have hA2 := HBd.out.trans (hA.mono HBd.out.size)
            have hnn := HNN.out
            have hkk := HK.out
            refine (lg_append_q (HLg.out.below hA2) HQt.out (by omega) (List.replicate M 0) M M (some ⟨wd.heap.size, 0, none⟩) (by simp) (by omega) (Nat.le_refl _) (fun x hx => by rw [(List.mem_replicate.1 hx).2]; decide) (row_zeros _ M wd) (by unfold need; omega)).mono ?_
            rintro e w' ⟨rfl, h5, h6⟩
            obtain ⟨s', h7, h8⟩ := h5.out
            exact ⟨rfl, Lib.hid ⟨s', _, _, h7, h8, by unfold need; omega⟩, Lib.hid ((hbl.out.trans (hA2.mono hbl.out.size)).trans h6.out)⟩)
          refine HF2.out.mono ?_
          rintro e we ⟨rfl, hlg5, hbl5⟩
          have HRm2 : Hid (Calls Tryd.prog 15 #[.pointer (some ⟨l, 0, none⟩)] we fun e w' => ∃ r : Int, e = .returned (.int .i64 r) ∧ r < (N : Int) ∧ Hid (Below we.heap.size we w')) := Lib.hid (by
            obtain ⟨s, bs, k, h5, h6, h7⟩ := hlg5.out
            have hnn := HNN.out
            refine (room_any (p + need M) 16 (by unfold need; omega) (by decide) h5.log).mono ?_
            rintro e w' ⟨rfl, h8⟩
            refine ⟨_, rfl, ?_, Lib.hid h8⟩
            unfold roomI
            split
            · omega
            · unfold need; omega)
          have HNx2 : Hid (∀ W, Below we.heap.size we W → p < nxt W l ∧ nxt W l ≤ 16) := Lib.hid fun W hW => by
            obtain ⟨s, bs, k, h5, h6, h7⟩ := hlg5.out
            have h9 := nxt_log (h5.below hW).log
            have h10 := h5.inv.ge.2
            rw [h9]
            exact ⟨by unfold need; omega, h10⟩
          clear HF2 HRm
          go_wp2_with fail
          refine HRm2.out.mono ?_
          rintro e wf ⟨r, rfl, hr, hbf⟩
          have hlg6 : Hid (∃ s bs p k, Lg w.heap.size wf g l 18 s 2 16 1 0 bs p k ∧ Quiet s ∧ k ≤ 200 + 20 * p) := Lib.hid (by
            obtain ⟨s, bs, k, h5, h6, h7⟩ := hlg5.out
            exact ⟨s, bs, _, k, h5.below hbf.out, h6, h7⟩)
          have hbl6 := Lib.hid (hbl5.out.trans (hbf.out.mono hbl5.out.size))
          have hnx6 := Lib.hid (HNx2.out wf hbf.out)
          have hrn : ¬ ((N : Int) ≤ r) := by omega
          go_wp2_with fail
          go_roundw
          case rel => exact ⟨hlg6, hbl6⟩
          case measure => have h5 := hnx6.out; have h6 := HNx.out; omega
        · obtain rfl : p = 16 := by omega
          have hrm : roomI 16 16 = -1 := if_pos rfl
          rw [hrm] at HRm
          have HAg : Hid (∀ W, Below wr.heap.size wr W → Calls Tryd.prog 14 #[.pointer (some ⟨l, 0, none⟩)] W fun e w' => e = .returned (.int .i64 1) ∧ W = w') := Lib.hid fun W hW => age_any (HLg.out.below hW).log
          have HF1 : Hid (∀ W, Below wr.heap.size wr W → Calls Tryd.prog 12 #[.pointer (some ⟨l, 0, none⟩), .slice none 0 0] W fun e w' => e = .returned (.int .i64 7) ∧ Hid (Below wr.heap.size wr w')) := Lib.hid fun W hW => by
            refine (lg_full (HLg.out.below hW) 0 0 none (by decide) (by decide)).mono ?_
            rintro e w' ⟨rfl, h5⟩
            exact ⟨rfl, Lib.hid (hW.trans (h5.mono hW.size))⟩
          have HTr : Hid (∀ W, Below wr.heap.size wr W → Calls Tryd.prog 13 #[.pointer (some ⟨l, 0, none⟩)] W fun e w' => e = .returned (.int .i64 0) ∧ Hid (∃ s k, Lg w.heap.size w' g l 18 s 2 16 2 1 [] 4 k ∧ Quiet s ∧ k ≤ 1000) ∧ Hid (Below w.heap.size w w')) := Lib.hid fun W hW => by
            have hkk := HK.out
            refine (lg_trunc_q (HLg.out.below hW) HQt.out (by omega) (by decide)).mono ?_
            rintro e w' ⟨rfl, h5, h6⟩
            obtain ⟨s', h7, h8⟩ := h5.out
            exact ⟨rfl, Lib.hid ⟨s', _, h7, h8, by omega⟩, Lib.hid ((hbl.out.trans (hW.mono hbl.out.size)).trans h6.out)⟩
          clear hrm hp
          go_wp2_with fail
          refine (HRm.out wr (Below.refl _ _)).mono ?_
          rintro e wa ⟨rfl, hba⟩
          have HBa := Lib.hid hba
          clear hba HRm
          go_wp2_with fail
          refine (HAg.out wa HBa.out).mono ?_
          rintro e wb ⟨rfl, rfl⟩
          go_wp2_with fail
          refine (HF1.out wa HBa.out).mono ?_
          rintro e wc ⟨rfl, HBc⟩
          go_wp2_with fail
          refine (HTr.out wc HBc.out).mono ?_
          rintro e wd ⟨rfl, hlg5, hbl5⟩
          have HAg2 : Hid (Calls Tryd.prog 14 #[.pointer (some ⟨l, 0, none⟩)] wd fun e w' => e = .returned (.int .i64 2) ∧ wd = w') := Lib.hid (by
            obtain ⟨s, k, h5, h6, h7⟩ := hlg5.out
            exact age_any h5.log)
          have HF3 : Hid (Calls Tryd.prog 12 #[.pointer (some ⟨l, 0, none⟩), .slice none 0 0] wd fun e w' => e = .returned (.int .i64 0) ∧ Hid (Below w.heap.size w w')) := Lib.hid (by
            obtain ⟨s, k, h5, h6, h7⟩ := hlg5.out
            refine (lg_append_q h5 h6 (by omega) [] 0 0 none rfl (by decide) (by decide) (by simp) (row_nil _ _ _) (by decide)).mono ?_
            rintro e w' ⟨rfl, _, h8⟩
            exact ⟨rfl, Lib.hid (hbl5.out.trans h8.out)⟩)
          clear HAg HF1 HTr
          go_wp2_with fail
          refine HAg2.out.mono ?_
          rintro e we ⟨rfl, rfl⟩
          go_wp2_with fail
          refine HF3.out.mono ?_
          rintro e wf ⟨rfl, hbf⟩
          go_wp2_with fail
          go_ret
          exact ⟨rfl, hbf.out⟩
end Go.Proofs.YtfhgdcljhncjmaaDoor
