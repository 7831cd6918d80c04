/- The scanner of package lex: all tokens of a text. -/
import Derived.Test.YtfpjeokncdlofaaLexQ
namespace Go.Proofs.Ytfpjeokncdlofaa
open Go.ChangeShapes Go.WideShapes Go.ChangeAt Go.RowKit Go.Joins
open Go.Proofs.Ytfpjeokncdlofaa.Fn (st st_size st_list st_extract)
set_option linter.unusedVariables false
set_option maxRecDepth 20000

/-- all tokens from here on, behind those that are there; or the place of what is wrong; none: a word is too long for what is said here -/
def scanS : Nat → List UInt8 → Nat × Nat → List Tok → Option (Except (Nat × Nat) (List Tok))
  | _, [], _, acc => some (.ok acc)
  | 0, _ :: _, _, _ => none
  | n + 1, c :: t, p, acc =>
    if 6000 < (wordB (c :: t) p).1.length then none
    else match tokS (c :: t) p with
      | .ok (k, l, q) => scanS n (skipB false l q).1 (skipB false l q).2 (acc ++ [k])
      | .error r => some (.error r)
/-- all tokens of a text -/
def scanL (l : List UInt8) : Option (Except (Nat × Nat) (List Tok)) := scanS l.length (skipB false l (1, 1)).1 (skipB false l (1, 1)).2 []
theorem skipB_head : ∀ (b : Bool) (l : List UInt8) (p : Nat × Nat) (c : UInt8) (t : List UInt8), (skipB b l p).1 = c :: t → blankB c = false ∧ c ≠ 59
  | b, [], p, c, t, h => by cases b <;> (rw [skipB] at h; cases h)
  | true, d :: u, p, c, t, h => by
    rw [skipB] at h
    split at h
    · exact skipB_head _ _ _ _ _ h
    · exact skipB_head _ _ _ _ _ h
  | false, d :: u, p, c, t, h => by
    rw [skipB] at h
    split at h
    · exact skipB_head _ _ _ _ _ h
    · split at h
      · exact skipB_head _ _ _ _ _ h
      · rename_i h1 h2
        cases h
        exact ⟨by simpa using h1, h2⟩
/-- a token's cells -/
def Tok.cells (k : Tok) : List Value := [.int .i64 k.2.1, .int .i64 (k.1.1 : Int), .int .i64 (k.1.2 : Int), .int .i64 k.2.2.1, .string (st k.2.2.2)]
def cellsT (L : List Tok) : List Value := L.flatMap Tok.cells
theorem cellsT_snoc (L : List Tok) (k : Tok) : cellsT (L ++ [k]) = cellsT L ++ Tok.cells k := by simp [cellsT]
theorem infoT : (Try.prog.info? 44).map (fun i => (i.zero, i.size, i.bytes)) = some (some (.agg #[.int .i64 0, .int .i64 0, .int .i64 0, .int .i64 0, .string ⟨#[]⟩]), 5, 48) := by kernel_rfl
theorem app_tok {B : Nat} {w : World} {v : Value} {L : List Tok} (hown : w.ownsRow B 44 5 v L.length (cellsT L)) (hB : B ≤ w.heap.size) (k : Tok) (tb : ByteArray) (htb : st k.2.2.2 = tb) (hn : L.length ≤ 1000000) (ty : TypeId) :
    ∃ v' w', (Builtin.append_ #[23, 23] ty #[v, .slice (some ⟨w.heap.size, 0, none⟩) 1 1]).run Try.prog (w.alloc (.cells #[.int .i64 k.2.1, .int .i64 (k.1.1 : Int), .int .i64 (k.1.2 : Int), .int .i64 k.2.2.1, .string tb] 44)) = .ok v' w' ∧ w'.ownsRow B 44 5 v' (L ++ [k]).length (cellsT (L ++ [k])) ∧ Below B w w' := by
  obtain ⟨i0, hi, hz0, hz1, hz2⟩ := info_parts infoT
  have hal : Below w.heap.size w (w.alloc (.cells #[.int .i64 k.2.1, .int .i64 (k.1.1 : Int), .int .i64 (k.1.2 : Int), .int .i64 k.2.2.1, .string tb] 44)) := (Below.refl _ _).alloc (Nat.le_refl _) _
  have hown2 : (w.alloc (.cells #[.int .i64 k.2.1, .int .i64 (k.1.1 : Int), .int .i64 (k.1.2 : Int), .int .i64 k.2.2.1, .string tb] 44)).ownsRow B 44 5 v L.length (cellsT L) := own_keepS (S := fun _ => False) hown (Only.of_below hal) (fun _ _ h => h)
  obtain ⟨v', w', hr, a1, a2, _⟩ := run_append_own (P := Try.prog) _ B 23 ty 44 i0 _ 5 48 Try.underlying23 hi hz0 hz1 hz2 rfl (by decide) v L.length _ hown2 ⟨w.heap.size, 0, none⟩ 1 1 (Tok.cells k) rfl (fun j u hj => by
    have h9 : (w.alloc (.cells #[.int .i64 k.2.1, .int .i64 (k.1.1 : Int), .int .i64 (k.1.2 : Int), .int .i64 k.2.2.1, .string tb] 44)).heap[w.heap.size]? = some (.cells #[.int .i64 k.2.1, .int .i64 (k.1.1 : Int), .int .i64 (k.1.2 : Int), .int .i64 k.2.2.1, .string tb] 44) := by show (w.heap.push _)[w.heap.size]? = _; simp
    have hadd : (⟨w.heap.size, 0, none⟩ : Addr).add j = ⟨w.heap.size, j, none⟩ := by unfold Addr.add; split <;> simp_all
    rw [hadd]
    simp only [World.cell?, h9]
    have hlt : j < 5 := (List.getElem?_eq_some_iff.1 hj).1
    unfold Tok.cells at hj
    rw [htb] at hj
    match j, hlt with
    | 0, _ => exact hj
    | 1, _ => exact hj
    | 2, _ => exact hj
    | 3, _ => exact hj
    | 4, _ => exact hj) (fun u hu => by
      unfold Tok.cells at hu
      simp only [List.mem_cons, List.not_mem_nil, or_false] at hu
      rcases hu with rfl | rfl | rfl | rfl | rfl <;> rfl) (by unfold maxLen; omega) (by omega) (Nat.le_trans hB hal.size)
  refine ⟨v', w', hr, ?_, (hal.mono hB).trans ((Below.refl B _).grown a2 (Nat.le_trans hB hal.size) fun k hk => ?_)⟩
  · rw [cellsT_snoc, List.length_append]
    exact a1
  · rcases hown.2 with ⟨h0, _⟩ | ⟨g', cap, cur, hv, hg, _⟩
    · rw [h0] at hk; cases hk
    · rw [hv] at hk; cases hk; exact hg
set_option maxHeartbeats 8000000 in
theorem scan_any (l : List UInt8) (hl : l.length ≤ 65536) (R : Except (Nat × Nat) (List Tok)) (hR : scanL l = some R) (w : World) :
    Calls Try.prog 18 #[.string (st l)] w fun e w' => ((∃ L v, R = .ok L ∧ e = .returned v ∧ Hid (w'.ownsRow w.heap.size 44 5 v L.length (cellsT L))) ∨ (∃ r, R = .error r ∧ e = thrown r.1 r.2 10)) ∧ Hid (Below w.heap.size w w') := by
  have HR0 := Lib.hid (fun _ : True => hR)
  have HF0 : Hid (Fit l (1, 1)) := Lib.hid ⟨by show 1 + l.length ≤ _; omega, by show 1 + l.length ≤ _; omega, by omega⟩
  obtain ⟨s, hs⟩ : ∃ s, st l = s := ⟨_, rfl⟩
  have hsz : ¬ ((65536 : Int) < (s.size : Int)) := by rw [← hs, st_size]; omega
  have HSc : Hid (Sc (w.alloc (.cells #[.string s, .int .i64 1, .int .i64 1] 65)) w.heap.size l 1 1) := Lib.hid (by
    unfold Sc
    rw [hs]
    show (w.heap.push _)[w.heap.size]? = _
    simp)
  have HLl : Hid (l.length ≤ 65536) := Lib.hid hl
  rw [hs]
  clear hs hl hR
  go_enter Try.func18, Try.ntmps18
  go_wp2_with fail
  generalize h1 : World.alloc w _ = w1 at *
  have HG : Hid (w.heap.size < w1.heap.size ∧ Below w.heap.size w w1) := Lib.hid (by rw [← h1]; exact ⟨by simp, (Below.refl _ _).alloc (Nat.le_refl _) _⟩)
  clear h1
  generalize hg : w.heap.size = g at *
  have HGB : Hid (∀ q, w1.heap.size ≤ q → ¬ q = g) := Lib.hid fun q hq e => by have := HG.out.1; omega
  have HBl : Hid (∀ W, Only (· = g) w1 W → Below g w W) := Lib.hid fun W hW => HG.out.2.trans (hW.below (fun k hk => Nat.le_of_eq hk.symm) (Nat.le_of_lt HG.out.1))
  refine (skipBlanks_any g l (1, 1) HF0.out w1 HSc).mono ?_
  rintro e w2 ⟨rfl, hs2, ho2⟩
  obtain ⟨B0, hB0⟩ : ∃ B, skipB false l (1, 1) = B := ⟨_, rfl⟩
  have HI0 : Hid (B0.1.length ≤ l.length ∧ scanS l.length B0.1 B0.2 [] = some R ∧ Fit B0.1 B0.2 ∧ (∀ c t, B0.1 = c :: t → blankB c = false ∧ c ≠ 59)) := Lib.hid (by
    obtain ⟨h1, h2⟩ := skipB_fit false l (1, 1) HF0.out
    have h3 := HR0.out trivial
    unfold scanL at h3
    rw [← hB0]
    exact ⟨h2, h3, h1, fun c t h => skipB_head _ _ _ _ _ h⟩)
  rw [hB0] at hs2
  clear hB0 HF0 HR0 HSc
  go_wp2_with fail
  go_loopg [3] (l.length) (fun k sv wr => ∃ (m : List UInt8) (q : Nat × Nat) (acc : List Tok) (v : Value), v = sv ∧ Hid (m.length ≤ k ∧ acc.length + m.length ≤ 65536) ∧ Hid (scanS k m q acc = some R ∧ Fit m q ∧ (∀ c t, m = c :: t → blankB c = false ∧ c ≠ 59)) ∧ Hid (Sc wr g m q.1 q.2) ∧ Hid (wr.ownsRow w1.heap.size 44 5 v acc.length (cellsT acc)) ∧ Hid (Only (· = g) w1 wr))
  case atStart => exact ⟨B0.1, B0.2, [], _, rfl, Lib.hid ⟨HI0.out.1, by have := HI0.out.1; have h2 := HLl.out; simp; omega⟩, Lib.hid HI0.out.2, hs2, Lib.hid (World.ownsRow_nil _ _ _ _), ho2⟩
  case round =>
    obtain ⟨m, q, acc, v, rfl, HK, HR, HS, HOw, HO⟩ := hrel
    obtain ⟨wo, rfl⟩ : ∃ wo : World, wo = wr := ⟨_, rfl⟩
    clear hs2 ho2 HI0
    have HE := Lib.hid (ended_any g m q.1 q.2 wo HS)
    cases m with
    | nil =>
      have HRe : Hid (R = .ok acc) := Lib.hid (by
        have h := HR.out.1
        cases gk <;> (rw [scanS] at h; cases h; rfl))
      have HO9 := Lib.hid (HBl.out wo HO.out)
      have HOw9 : Hid (wo.ownsRow g 44 5 v acc.length (cellsT acc)) := Lib.hid (by
        refine ⟨HOw.out.1, ?_⟩
        rcases HOw.out.2 with h0 | ⟨g', cap, cur, hv, hb, rest⟩
        · exact .inl h0
        · exact .inr ⟨g', cap, cur, hv, by have := HG.out.1; omega, rest⟩)
      clear HR HK
      go_wp2_with fail
      refine HE.out.mono ?_
      rintro e w3 ⟨rfl, rfl⟩
      go_wp2_with fail
      go_ret
      exact ⟨.inl ⟨acc, v, HRe.out, rfl, by rw [hg]; exact HOw9⟩, by rw [hg]; exact HO9⟩
    | cons c u =>
      obtain ⟨k, hk⟩ : ∃ k, gk = k + 1 := ⟨gk - 1, by have := HK.out.1; rw [List.length_cons] at this; omega⟩
      have hRs : (if 6000 < (wordB (c :: u) q).1.length then none
    else match tokS (c :: u) q with
      | .ok (k', l, q) => scanS k (skipB false l q).1 (skipB false l q).2 (acc ++ [k'])
      | .error r => some (.error r)) = some R := by rw [← HR.out.1, hk, scanS]
      have hw6 : (wordB (c :: u) q).1.length ≤ 6000 := by
        rcases Nat.lt_or_ge 6000 (wordB (c :: u) q).1.length with h | h
        · rw [if_pos h] at hRs; cases hRs
        · exact h
      rw [if_neg (by omega)] at hRs
      have HRs := Lib.hid (fun _ : True => hRs)
      have HGk := Lib.hid (fun _ : True => hk)
      obtain ⟨hb, h59⟩ := HR.out.2.2 c u rfl
      have HFt := Lib.hid HR.out.2.1
      have HTf := Lib.hid (fun k l r (h : tokS (c :: u) q = .ok (k, l, r)) => tokS_fit HR.out.2.1 hb h59 h)
      have HTk := Lib.hid (token_any g c u q HR.out.2.1 hb h59 hw6 wo HS)
      have HKl : Hid (u.length ≤ k ∧ acc.length + 1 + u.length ≤ 65536) := Lib.hid (by have := HK.out; rw [List.length_cons] at this; omega)
      have hd : decide (c :: u = ([] : List UInt8)) = false := rfl
      rw [hd] at HE
      clear HR HK hk hRs hw6 hb h59
      go_wp2_with fail
      refine HE.out.mono ?_
      rintro e w3 ⟨rfl, rfl⟩
      clear HE
      go_wp2_with fail
      refine HTk.out.mono ?_
      rintro e w5 ⟨hres, ho5⟩
      clear HTk
      rcases hres with ⟨kk, l5, r5, he5, rfl, hs5⟩ | ⟨r, he5, rfl⟩
      · obtain ⟨hfl, hll⟩ := HTf.out _ _ _ he5
        have HRk : Hid (scanS k (skipB false l5 r5).1 (skipB false l5 r5).2 (acc ++ [kk]) = some R) := Lib.hid (by have h := HRs.out trivial; rw [he5] at h; exact h)
        have HOw5 := Lib.hid (own_keepS HOw.out ho5.out (fun z hz => HGB.out z hz))
        have HO5 : Hid (Only (· = g) w1 w5) := Lib.hid (HO.out.trans ho5.out)
        obtain ⟨tb, htb⟩ : ∃ s, st kk.2.2.2 = s := ⟨_, rfl⟩
        obtain ⟨v', w6, hrun, hov, hbv⟩ := app_tok HOw5.out HO5.out.size kk tb htb (by have := HKl.out; omega) 23
        have HOw6 := Lib.hid hov
        have HO6 : Hid (Only (· = g) w1 w6) := Lib.hid (only_below HO5.out hbv)
        have HS6 : Hid (Sc w6 g l5 r5.1 r5.2) := Lib.hid (by
          have h3 := HG.out.1
          have h9 := hs5.out
          unfold Sc at h9 ⊢
          rw [hbv.block g (by omega)]; exact h9)
        have HSk := Lib.hid (skipBlanks_any g l5 r5 hfl w6 HS6)
        have hsf := skipB_fit false l5 r5 hfl
        have hsh := skipB_head false l5 r5
        obtain ⟨B1, hB1⟩ : ∃ B, skipB false l5 r5 = B := ⟨_, rfl⟩
        rw [hB1] at HRk HSk hsf hsh
        have HK6 : Hid (B1.1.length ≤ k ∧ (acc ++ [kk]).length + B1.1.length ≤ 65536) := Lib.hid (by rw [List.length_append]; have := HKl.out; have h2 := hsf.2; simp only [List.length_cons, List.length_nil]; omega)
        have HF6 : Hid (Fit B1.1 B1.2 ∧ (∀ c t, B1.1 = c :: t → blankB c = false ∧ c ≠ 59)) := Lib.hid ⟨hsf.1, hsh⟩
        unfold Tok.v tokV
        rw [htb]
        clear hov hbv HOw5 HO5 HFt HKl HTf HRs hs5 ho5 hfl hll he5 HOw HO HS HS6 hsf hsh hB1 htb
        go_wp2_with (at_builtin; refine Lib.wpList_append_run _ rfl _ _ _ _ rfl _ _ rfl rfl _ _ hrun ?_)
        clear hrun
        refine HSk.out.mono ?_
        rintro e w7 ⟨rfl, hs7, ho7⟩
        have HOw7 := Lib.hid (own_keepS HOw6.out ho7.out (fun z hz => HGB.out z hz))
        have HO7 : Hid (Only (· = g) w1 w7) := Lib.hid (HO6.out.trans ho7.out)
        clear HSk HOw6 HO6 ho7
        go_wp2_with fail
        go_roundg k
        case measure => have := HGk.out trivial; omega
        case rel => exact ⟨B1.1, B1.2, acc ++ [kk], v', rfl, HK6, Lib.hid ⟨HRk.out, HF6.out⟩, hs7, HOw7, HO7⟩
      · have HRe : Hid (R = .error r) := Lib.hid (by have h := HRs.out trivial; rw [he5] at h; cases h; rfl)
        have HO9 := Lib.hid (HBl.out _ (HO.out.trans ho5.out))
        exact ⟨rfl, .inr ⟨r, HRe.out, rfl⟩, by rw [hg]; exact HO9⟩
end Go.Proofs.Ytfpjeokncdlofaa
