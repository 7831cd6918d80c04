/- LexWords, at whatever word and count: the walk. -/
import Derived.Test.YtfpjeokncdlofaaLexWo
namespace Go.Proofs.Ytfpjeokncdlofaa
open Go.ChangeShapes Go.WideShapes Go.ChangeAt Go.RowKit Go.Joins
open Go.Proofs.Ytfpjeokncdlofaa.Fn (st st_size st_list st_extract)
open Go.Proofs.Ytfpjeokncdlofaa.Fd (out)
set_option linter.unusedVariables false
set_option maxRecDepth 20000

set_option maxHeartbeats 16000000 in
theorem lexWords_walk (HWo : ∀ (c : UInt8) (t : List UInt8), (c :: t).length ≤ 6000 → ∀ w : World, Calls Try.prog 14 #[.string (st (c :: t))] w fun e w' => ((∃ k n b, wordS (c :: t) = some (k, n, b) ∧ e = .returned (.tuple #[tokV (0, 0) k n b, .bool true])) ∨ (wordS (c :: t) = none ∧ e = .returned (.tuple #[tokV (0, 0) 0 0 [], .bool false]))) ∧ Hid (Below w.heap.size w w'))
    (s : ByteArray) (b : Int) (hsl : s.size ≤ maxLen) (w : World) :
    Calls Try.prog 4 #[.string s, .int .i64 b] w fun e w' => e = .returned (.bool true) ∧ Below w.heap.size w w' := by
  obtain ⟨L, hs⟩ : ∃ L, s = st L := ⟨s.data.toList, by apply ByteArray.ext; simp [st]⟩
  obtain ⟨n0, hn⟩ : ∃ n, L.length = n := ⟨_, rfl⟩
  have hsz : s.size = n0 := by rw [hs, st_size, hn]
  have hn63 : n0 ≤ 9223372036854775807 := by rw [hsz] at hsl; exact hsl
  clear hsl
  have HL := Lib.hid (fun W => lexes_any W)
  have HWd0 := Lib.hid HWo
  clear HWo
  have HIx : Hid (∀ (j : Nat) (h : j < L.length) (W : World), (Instr.index 9 (.string s) (.int .i64 (j : Int))).run Try.prog W = .ok (.int .u8 ((L[j].toNat : Nat) : Int)) W) := Lib.hid fun j h W => by rw [hs]; exact idx_at L j h W
  have HSt : Hid (s = st L) := Lib.hid hs
  have HNn : Hid (L.length = n0) := Lib.hid hn
  obtain ⟨m, hm, hm45⟩ : ∃ m : Nat, wrap64 (1 + wrap64 ((IntKind.u64.wrap b).tmod 45)) = (m : Int) ∧ (1 ≤ m ∧ m ≤ 45) := by
    have h := IntKind.wrap_u64 b
    have h2 : 0 ≤ IntKind.u64.wrap b := by rw [h]; omega
    have e : (IntKind.u64.wrap b).tmod 45 = IntKind.u64.wrap b % 45 := Int.tmod_eq_emod_of_nonneg h2
    refine ⟨(1 + IntKind.u64.wrap b % 45).toNat, ?_, by omega⟩
    rw [e]; unfold wrap64; omega
  clear hs hn
  go_enter Try.func4, Try.ntmps4
  go_wp2_with fail
  go_loopw [5] (fun i wr => ∃ j : Nat, j ≤ n0 ∧ i = .int .i64 (j : Int) ∧ Hid (∀ k (hk : k < L.length), k < j → ofW L[k] = true) ∧ wr = w) (fun i _ => n0 - (intOf i).toNat)
  case atStart => exact ⟨0, by omega, rfl, Lib.hid (fun k _ h => absurd h (by omega)), rfl⟩
  case round =>
    obtain ⟨j, hj, rfl, HO, rfl⟩ := hrel
    by_cases hjn : j < n0
    · have hjI : (j : Int) < (n0 : Int) := by omega
      have hix := HIx.out j (by rw [HNn.out]; exact hjn)
      have HG := Lib.hid (ofW_good (L[j]'(by rw [HNn.out]; exact hjn)))
      obtain ⟨y, hy⟩ : ∃ y, (L[j]'(by rw [HNn.out]; exact hjn)).toNat = y := ⟨_, rfl⟩
      rw [hy] at hix HG
      clear hy HIx
      by_cases h1 : y ≤ 32
      · have k1 : (y : Int) ≤ 32 := by omega
        go_wp2_with fail
        refine (HL.out _).mono ?_
        rintro e w1 ⟨rfl, hb1⟩
        go_wp2_with fail
        go_ret
        exact ⟨rfl, hb1.out⟩
      · have k1 : ¬ ((y : Int) ≤ 32) := by omega
        have k1b : decide ((y : Int) ≤ 32) = false := decide_eq_false k1
        by_cases h2 : y = 40
        · have k2 : ((y : Int) == 40) = true := by rw [h2]; rfl
          go_wp2_with fail
          refine (HL.out _).mono ?_
          rintro e w1 ⟨rfl, hb1⟩
          go_wp2_with fail
          go_ret
          exact ⟨rfl, hb1.out⟩
        · have k2 : ((y : Int) == 40) = false := by rw [beq_eq_false_iff_ne]; omega
          by_cases h3 : y = 41
          · have k3 : ((y : Int) == 41) = true := by rw [h3]; rfl
            go_wp2_with fail
            refine (HL.out _).mono ?_
            rintro e w1 ⟨rfl, hb1⟩
            go_wp2_with fail
            go_ret
            exact ⟨rfl, hb1.out⟩
          · have k3 : ((y : Int) == 41) = false := by rw [beq_eq_false_iff_ne]; omega
            by_cases h4 : y = 34
            · have k4 : ((y : Int) == 34) = true := by rw [h4]; rfl
              go_wp2_with fail
              refine (HL.out _).mono ?_
              rintro e w1 ⟨rfl, hb1⟩
              go_wp2_with fail
              go_ret
              exact ⟨rfl, hb1.out⟩
            · have k4 : ((y : Int) == 34) = false := by rw [beq_eq_false_iff_ne]; omega
              by_cases h5 : y = 59
              · have k5 : ((y : Int) == 59) = true := by rw [h5]; rfl
                go_wp2_with fail
                refine (HL.out _).mono ?_
                rintro e w1 ⟨rfl, hb1⟩
                go_wp2_with fail
                go_ret
                exact ⟨rfl, hb1.out⟩
              · have k5 : ((y : Int) == 59) = false := by rw [beq_eq_false_iff_ne]; omega
                have HO2 : Hid (∀ k (hk : k < L.length), k < j + 1 → ofW L[k] = true) := Lib.hid (fun k hk hkj => by
                  rcases Nat.lt_or_ge k j with h | h
                  · exact HO.out k hk h
                  · have : k = j := by omega
                    subst this
                    exact HG.out h1 h2 h3 h4 h5)
                clear HO HG
                go_wp2_with fail
                go_roundw
                case rel => exact ⟨j + 1, by omega, by go_num, HO2, by first | rfl | trivial⟩
                case measure => simp only [intOf]; omega
    · have hjn' : j = n0 := by omega
      have HWd : Hid (∀ c ∈ L, ofW c = true) := Lib.hid (fun c hc => by
        obtain ⟨k, hk, rfl⟩ := List.getElem_of_mem hc
        exact HO.out k hk (by rw [hjn', ← HNn.out]; exact hk))
      subst hjn'
      clear HO HIx
      by_cases hlong : 300 < j
      · have hlI : (300 : Int) < (j : Int) := by omega
        have hne : (s.toList == ([] : List UInt8)) = false := by
          rw [ByteArray.toList_eq, HSt.out, st_list, beq_eq_false_iff_ne]
          intro e; have := HNn.out; rw [e] at this; simp at this; omega
        go_wp2_with fail
        refine (HL.out _).mono ?_
        rintro e w1 ⟨rfl, hb1⟩
        go_wp2_with fail
        go_ret
        exact ⟨rfl, hb1.out⟩
      · have hlI : ¬ ((300 : Int) < (j : Int)) := by omega
        have hlb : decide ((300 : Int) < (j : Int)) = false := decide_eq_false hlI
        cases hLe : L with
        | nil =>
          have hs0 : s = ⟨#[]⟩ := by rw [HSt.out, hLe]; rfl
          subst hs0
          go_wp2_with fail
          refine (HL.out _).mono ?_
          rintro e w1 ⟨rfl, hb1⟩
          go_wp2_with fail
          go_ret
          exact ⟨rfl, hb1.out⟩
        | cons c t =>
          have hne : (s.toList == ([] : List UInt8)) = false := by
            rw [ByteArray.toList_eq, HSt.out, st_list, beq_eq_false_iff_ne, hLe]
            exact List.cons_ne_nil _ _
          have hex : s.extract 0 1 = st [c] := by rw [HSt.out, hLe, st_extract]; rfl
          have hle : (1 : Int) ≤ (j : Int) := by have h := HNn.out; rw [hLe] at h; simp at h; omega
          rename World => wz
          go_wp2_with fail
          go_loopw [6, 7] (fun u i wq => ∃ (q : Nat) (bs : List UInt8), 1 ≤ q ∧ q ≤ m ∧ u = .string (st bs) ∧ i = .int .i64 (q : Int) ∧ Hid (bs = c :: t ++ List.replicate (q - 1) c) ∧ wq = wz) (fun _ i _ => m - (intOf i).toNat)
          case atStart => exact ⟨1, c :: t, by omega, by omega, by rw [HSt.out, hLe], rfl, Lib.hid (by simp), rfl⟩
          case round =>
            obtain ⟨q, bs, hq1, hq, rfl, rfl, HBs, rfl⟩ := hrel
            rename World => wz
            by_cases hqm : q < m
            · have hqI : (q : Int) < (m : Int) := by omega
              have hadd := st_add bs [c] (by have h1 := HNn.out; rw [hLe] at h1; rw [HBs.out, List.length_append, List.length_replicate, h1]; simp; omega)
              have HBs2 : Hid (bs ++ [c] = c :: t ++ List.replicate (q + 1 - 1) c) := Lib.hid (by rw [HBs.out, show q + 1 - 1 = (q - 1) + 1 by omega, List.replicate_succ', List.append_assoc])
              go_wp2_with fail
              go_roundw
              case rel => exact ⟨q + 1, bs ++ [c], by omega, by omega, rfl, by go_num, HBs2, by first | rfl | trivial⟩
              case measure => simp only [intOf]; omega
            · have hqm' : q = m := by omega
              subst hqm'
              have HW1 : Hid (∀ d ∈ c :: t ++ List.replicate (q - 1) c, ofW d = true) := Lib.hid (fun d hd => by
                rcases List.mem_append.1 hd with h | h
                · exact HWd.out d (by rw [hLe]; exact h)
                · rw [(List.mem_replicate.1 h).2]
                  exact HWd.out c (by rw [hLe]; exact List.mem_cons_self ..))
              have HW0 : Hid (∀ d ∈ c :: t, ofW d = true) := Lib.hid (fun d hd => HWd.out d (by rw [hLe]; exact hd))
              have HLn : Hid ((c :: t).length ≤ 300 ∧ (c :: t ++ List.replicate (q - 1) c).length ≤ 345) := Lib.hid (by
                have h1 := HNn.out
                rw [hLe] at h1
                rw [List.length_append, List.length_replicate, h1]
                omega)
              have HS0 : Hid (s = st (c :: t)) := Lib.hid (by rw [HSt.out, hLe])
              have HNe : Hid (bs ≠ []) := Lib.hid (by rw [HBs.out]; exact List.cons_ne_nil _ _)
              rw [← HBs.out] at HW1 HLn
              obtain ⟨s1, hs1⟩ : ∃ x, st bs = x := ⟨_, rfl⟩
              have HS1 := Lib.hid (fun _ : True => hs1)
              rw [hs1]
              clear hs1 HBs HWd HSt HNn hex hle
              go_wp2_with fail
              generalize h1 : World.alloc wz _ = w1
              have HB1 : Hid (Below wz.heap.size wz w1) := Lib.hid (by rw [← h1]; exact (Below.refl _ _).alloc (Nat.le_refl _) _)
              have HC1 : Hid (w1.heap[wz.heap.size]? = some (.cells #[.string s, .string s1] 9 (0, 0))) := Lib.hid (by rw [← h1]; show (wz.heap.push _)[wz.heap.size]? = _; simp)
              clear h1
              go_loopw [9] (fun i wq => ∃ z : Nat, z ≤ 2 ∧ i = .int .i64 (z : Int) ∧ Hid (wq.heap[wz.heap.size]? = some (.cells #[.string s, .string s1] 9 (0, 0))) ∧ Hid (Below wz.heap.size wz wq)) (fun i _ => 2 - (intOf i).toNat)
              case atStart => exact ⟨0, by omega, rfl, HC1, HB1⟩
              case round =>
                obtain ⟨z, hz, rfl, HC, HB⟩ := hrel
                obtain ⟨wo, rfl⟩ : ∃ wo : World, wo = wr := ⟨_, rfl⟩
                by_cases hz2 : z < 2
                · have hzI : (z : Int) < 2 := by omega
                  have hz0 : (0 : Int) ≤ (z : Int) := by omega
                  obtain ⟨X, sx, hX, hXn, hXw, hXl, hXc⟩ : ∃ (X : List UInt8) (sx : ByteArray), st X = sx ∧ X ≠ [] ∧ (∀ d ∈ X, ofW d = true) ∧ X.length ≤ 345 ∧ ∀ W : World, W.heap[wz.heap.size]? = some (.cells #[.string s, .string s1] 9 (0, 0)) → W.cell? ⟨wz.heap.size, z, none⟩ = some (.string sx) := by
                    have hzc : z = 0 ∨ z = 1 := by omega
                    rcases hzc with rfl | rfl
                    · exact ⟨c :: t, s, HS0.out.symm, List.cons_ne_nil _ _, HW0.out, by have := HLn.out; omega, fun W hW => by rw [cell_of_block hW]; rfl⟩
                    · exact ⟨bs, s1, HS1.out trivial, HNe.out, HW1.out, HLn.out.2, fun W hW => by rw [cell_of_block hW]; rfl⟩
                  have hc0 := hXc wo HC.out
                  have HXc := Lib.hid hXc
                  have hsx : sx.size ≤ 345 := by rw [← hX, st_size]; exact hXl
                  have hadd1 : ∀ w, (Op.stringOp .add { data := #[40] } sx).run Try.prog w = .ok (.string (st ([40] ++ X))) w := by rw [← hX]; exact st_add [40] X (by simp; omega)
                  have hadd2 : ∀ w, (Op.stringOp .add (st ([40] ++ X)) { data := #[41] }).run Try.prog w = .ok (.string (st ([40] ++ X ++ [41]))) w := st_add ([40] ++ X) [41] (by simp; omega)
                  have hsc := scan_word X hXn hXw (by omega)
                  have hlen : ([40] ++ X ++ [41]).length ≤ 65536 := by simp; omega
                  have HWo := Lib.hid (fun W => (show _ from by
                    cases X with
                    | nil => exact absurd rfl hXn
                    | cons a r => exact HWd0.out a r (by omega) W : Calls Try.prog 14 #[.string (st X)] W fun e w' => ((∃ k n b, wordS X = some (k, n, b) ∧ e = .returned (.tuple #[tokV (0, 0) k n b, .bool true])) ∨ (wordS X = none ∧ e = .returned (.tuple #[tokV (0, 0) 0 0 [], .bool false]))) ∧ Hid (Below W.heap.size W w')))
                  rw [hX] at HWo
                  have HgB : Hid (wz.heap.size < wo.heap.size) := Lib.hid (Array.getElem?_eq_some_iff.1 HC.out).1
                  cases hs : wordS X with
                  | none =>
                    rw [hs] at hsc
                    have HN := Lib.hid (fun W => lexScan_no ([40] ++ X ++ [41]) hlen (1, 2) hsc W)
                    have HWn : Hid (∀ W, Calls Try.prog 14 #[.string sx] W fun e w' => e = .returned (.tuple #[.agg #[.int .i64 0, .int .i64 0, .int .i64 0, .int .i64 0, .string ⟨#[]⟩], .bool false]) ∧ Hid (Below W.heap.size W w')) := Lib.hid fun W => (HWo.out W).mono (by
                      rintro e w' ⟨(⟨k, n, b, he, rfl⟩ | ⟨he, rfl⟩), hb⟩
                      · rw [hs] at he; cases he
                      · exact ⟨rfl, hb⟩)
                    generalize st ([40] ++ X) = sy at *
                    generalize st ([40] ++ X ++ [41]) = sz at *
                    clear hX hXn hXw hXl hXc hsc hlen HWo hs hsx HWd0 HL HS0 HS1 HNe HW1 HW0 HLn
                    go_wp2_with fail
                    refine (HN.out wo).mono ?_
                    rintro e w3 ⟨rfl, hb3⟩
                    clear hc0
                    have hb4 : Below w3.heap.size w3 (w3.alloc (.cells #[.int .i64 1, .int .i64 2] 25)) := (Below.refl _ _).alloc (Nat.le_refl _) _
                    have hb04 : Below wo.heap.size wo (w3.alloc (.cells #[.int .i64 1, .int .i64 2] 25)) := hb3.out.trans (hb4.mono hb3.out.size)
                    have hc4 := HXc.out _ ((hb04.block _ HgB.out).trans HC.out)
                    have HB04 := Lib.hid hb04
                    clear hb4 hb04 hb3
                    go_wp2_with fail
                    refine (HWn.out _).mono ?_
                    rintro e w5 ⟨rfl, hb5⟩
                    have HB05 : Hid (Below wo.heap.size wo w5) := Lib.hid (HB04.out.trans (hb5.out.mono HB04.out.size))
                    clear hc4 hb5 HB04
                    go_wp2_with fail
                    go_quiet (fail)
                    go_wp2_with fail
                    generalize hWf : World.drewN (World.alloc w5 _) _ = Wf at *
                    have hbf : Below wo.heap.size wo Wf := by
                      rw [← hWf]
                      exact below_drewN (HB05.out.trans (((Below.refl _ _).alloc (Nat.le_refl _) _).mono HB05.out.size)) _
                    exact ⟨⟨z + 1, by omega, by go_num, Lib.hid ((hbf.block _ HgB.out).trans HC.out), Lib.hid (HB.out.trans (hbf.mono HB.out.size))⟩, by simp only [intOf]; omega⟩
                  | some v =>
                    obtain ⟨kk, nn, xx⟩ := v
                    rw [hs] at hsc
                    obtain ⟨T, hT⟩ : ∃ T : List Tok, [((1, 1), 0, 0, []), ((1, 2), kk, nn, xx), ((1, 2 + X.length), 1, 0, [])] = T := ⟨_, rfl⟩
                    have hTl : T.length = 3 := by rw [← hT]; rfl
                    have HT1 : Hid (T[1]'(by omega) = ((1, 2), kk, nn, xx)) := Lib.hid (by subst hT; rfl)
                    have hsc' : scanL ([40] ++ X ++ [41]) = some (.ok T) := by rw [hsc, ← hT]
                    have HN := Lib.hid (fun W => lexScan_ok ([40] ++ X ++ [41]) hlen T hsc' W)
                    obtain ⟨sb, hsb⟩ : ∃ y, st xx = y := ⟨_, rfl⟩
                    have HSb := Lib.hid (fun _ : True => hsb)
                    have HWs : Hid (∀ W, Calls Try.prog 14 #[.string sx] W fun e w' => e = .returned (.tuple #[.agg #[.int .i64 kk, .int .i64 0, .int .i64 0, .int .i64 nn, .string sb], .bool true]) ∧ Hid (Below W.heap.size W w')) := Lib.hid fun W => (HWo.out W).mono (by
                      rintro e w' ⟨(⟨k, n, b, he, rfl⟩ | ⟨he, rfl⟩), hb⟩
                      · rw [hs] at he; cases he; exact ⟨by rw [← hsb]; rfl, hb⟩
                      · rw [hs] at he; cases he)
                    generalize st ([40] ++ X) = sy at *
                    generalize st ([40] ++ X ++ [41]) = sz at *
                    have HTl := Lib.hid (fun _ : True => hTl)
                    clear hX hXn hXw hXl hXc hsc hsc' hlen HWo hs hsx HWd0 HL HS0 HS1 HNe HW1 HW0 HLn hT hsb
                    go_wp2_with fail
                    refine (HN.out wo).mono ?_
                    rintro e w3 ⟨v, rfl, ho3, hb3⟩
                    obtain ⟨va, vc, rfl⟩ := own_sl ho3.out
                    have HF : Hid (∀ W, Below w3.heap.size w3 W → Calls Try.prog 13 #[.slice va 3 vc] W fun e w' => ∃ gu cu, e = .returned (.slice (some ⟨gu, 0, none⟩) 3 cu) ∧ (3 : Int) ≤ (cu : Int) ∧ (w'.cell? ⟨gu, 5, none⟩ = some (.int .i64 kk) ∧ w'.cell? ⟨gu, 6, none⟩ = some (.int .i64 1) ∧ w'.cell? ⟨gu, 7, none⟩ = some (.int .i64 2) ∧ w'.cell? ⟨gu, 8, none⟩ = some (.int .i64 nn) ∧ w'.cell? ⟨gu, 9, none⟩ = some (.string sb)) ∧ Hid (Below W.heap.size W w')) := Lib.hid fun W hW => by
                      have ho := own_keepS (S := fun k => w3.heap.size ≤ k) ho3.out ⟨hW.os, hW.tape, hW.output, hW.size, fun k hk _ => hW.block k hk⟩
                      have hoW : W.ownsRow wo.heap.size 44 5 (.slice va T.length vc) T.length (cellsT T) := by
                        refine ⟨ho3.out.1, ?_⟩
                        rcases ho3.out.2 with h0 | ⟨g', cap, cur, hv, hb, hg, rest⟩
                        · exact .inl h0
                        · exact .inr ⟨g', cap, cur, hv, hb, (hW.block g' (Array.getElem?_eq_some_iff.1 hg).1).trans hg, rest⟩
                      have h1 := from_any T (by rw [HTl.out trivial]; decide) (.slice va T.length vc) wo.heap.size W (Lib.hid hoW)
                      rw [HTl.out trivial] at h1
                      refine h1.mono ?_
                      rintro e w' ⟨u, rfl, hu, hb⟩
                      have hu' : w'.ownsRow W.heap.size 38 5 u T.length (cellsT T) := by rw [HTl.out trivial]; exact hu.out
                      obtain ⟨gu, cu, hv, _, _, hcu, hcell⟩ := tok_atT hu' (by rw [HTl.out trivial]; decide)
                      rw [HTl.out trivial] at hv hcu
                      obtain ⟨q0, q1, q2, q3, q4⟩ := hcell w' rfl 1 (by rw [HTl.out trivial]; decide)
                      rw [HT1.out] at q0 q1 q2 q3 q4
                      exact ⟨gu, cu, by rw [hv], by omega, ⟨q0, q1, q2, q3, by rw [← HSb.out trivial]; exact q4⟩, hb⟩
                    rw [HTl.out trivial]
                    clear hc0 HTl HT1 ho3
                    have hb4 : Below w3.heap.size w3 (w3.alloc (.cells #[.int .i64 0, .int .i64 0] 25)) := (Below.refl _ _).alloc (Nat.le_refl _) _
                    have hb04 : Below wo.heap.size wo (w3.alloc (.cells #[.int .i64 0, .int .i64 0] 25)) := hb3.out.trans (hb4.mono hb3.out.size)
                    have hc4 := HXc.out _ ((hb04.block _ HgB.out).trans HC.out)
                    have HB04 := Lib.hid hb04
                    have HB34 := Lib.hid hb4
                    clear hb4 hb04 hb3
                    go_wp2_with fail
                    refine (HWs.out _).mono ?_
                    rintro e w5 ⟨rfl, hb5⟩
                    have HB05 : Hid (Below wo.heap.size wo w5) := Lib.hid (HB04.out.trans (hb5.out.mono HB04.out.size))
                    have HB35 : Hid (Below w3.heap.size w3 w5) := Lib.hid (HB34.out.trans (hb5.out.mono HB34.out.size))
                    clear hc4 hb5 HB04 HB34
                    go_wp2_with fail
                    generalize h6 : World.alloc w5 _ = w6
                    have h9 : w6.heap[w5.heap.size]? = some (.cells #[.int .i64 kk, .int .i64 1, .int .i64 2, .int .i64 nn, .string sb] 38 (0, 0)) := by
                      rw [← h6]; show (w5.heap.push _)[w5.heap.size]? = _; simp
                    have hb6 : Below w5.heap.size w5 w6 := by rw [← h6]; exact (Below.refl _ _).alloc (Nat.le_refl _) _
                    have HP : Hid (∀ W : World, W.heap[w5.heap.size]? = w6.heap[w5.heap.size]? → W.cell? ⟨w5.heap.size, 0, none⟩ = some (.int .i64 kk) ∧ W.cell? ⟨w5.heap.size, 1, none⟩ = some (.int .i64 1) ∧ W.cell? ⟨w5.heap.size, 2, none⟩ = some (.int .i64 2) ∧ W.cell? ⟨w5.heap.size, 3, none⟩ = some (.int .i64 nn) ∧ W.cell? ⟨w5.heap.size, 4, none⟩ = some (.string sb)) := Lib.hid fun W hW => by
                      have h := hW.trans h9
                      refine ⟨?_, ?_, ?_, ?_, ?_⟩ <;> (rw [cell_of_block h]; rfl)
                    have HB36 : Hid (Below w3.heap.size w3 w6) := Lib.hid (HB35.out.trans (hb6.mono HB35.out.size))
                    have HB06 : Hid (Below wo.heap.size wo w6) := Lib.hid (HB05.out.trans (hb6.mono HB05.out.size))
                    have HL6 : Hid (w5.heap.size < w6.heap.size) := Lib.hid (Array.getElem?_eq_some_iff.1 h9).1
                    obtain ⟨p0, p1, p2, p3, p4⟩ := HP.out w6 rfl
                    clear h6 h9 hb6 HB05 HB35
                    go_region_with (go_at_call 13; refine (HF.out _ ?_).mono ?_; exact ⟨HB36.out.os, HB36.out.tape, HB36.out.output, HB36.out.size, HB36.out.block⟩; rintro e w7 ⟨gu, cu, rfl, hcu, ⟨q0, q1, q2, q3, q4⟩, hb7⟩; obtain ⟨r0, r1, r2, r3, r4⟩ := HP.out w7 (hb7.out.block _ HL6.out))
                    all_goals
                      have hb7' : Below w6.heap.size w6 w7 := ⟨hb7.out.os, hb7.out.tape, hb7.out.output, hb7.out.size, hb7.out.block⟩
                      have HBF : Hid (Below wo.heap.size wo w7) := Lib.hid (HB06.out.trans (hb7'.mono HB06.out.size))
                      clear hb7' hb7 HB06 HB36 HP HF HL6
                      go_wp2_with fail
                      exact ⟨⟨z + 1, by omega, by go_num, Lib.hid ((HBF.out.block _ HgB.out).trans HC.out), Lib.hid (HB.out.trans (HBF.out.mono HB.out.size))⟩, by simp only [intOf]; omega⟩
                · have hz2' : z = 2 := by omega
                  subst hz2'
                  have HL9 := Lib.hid (HL.out wo)
                  go_wp2_with fail
                  refine HL9.out.mono ?_
                  rintro e w5 ⟨rfl, hb5⟩
                  go_wp2_with fail
                  go_ret
                  exact ⟨rfl, HB.out.trans (hb5.out.mono HB.out.size)⟩
end Go.Proofs.Ytfpjeokncdlofaa
