/- The walk of the law CrcOpens. -/
import Derived.Test.YtkaigmgnmdhngaaDoorOpensW
namespace Go.Proofs.YtkaigmgnmdhngaaDoor
open Go.ChangeShapes Go.WideShapes Go.ChangeAt Go.RowKit Go.Joins
set_option linter.unusedVariables false

theorem pad_get (L : List Nat) (n j : Nat) (h : L.length ≤ j) : (L ++ List.replicate n 0).getD j 0 = 0 := by
  unfold List.getD
  rw [List.getElem?_append_right h, List.getElem?_replicate]
  split <;> rfl
/-- what stands at the second loop's head -/
def Painted (go m H : Nat) (w9 wr : World) : Prop := (∃ M : List Nat, M.length = m ∧ Row wr go m M) ∧ Below H w9 wr
theorem paint {go m H j : Nat} {w9 wr : World} (h : Painted go m H w9 wr) (hj : j < m) (hH : H ≤ go) : (∃ v, wr.cell? ⟨go, j, none⟩ = some v) ∧ wr.frozen? ⟨go, j, none⟩ = false ∧ Painted go m H w9 (wr.setCell ⟨go, j, none⟩ (.int .u8 119)) := by
  obtain ⟨⟨M, h1, h2⟩, h3⟩ := h
  exact ⟨⟨_, row_byte h2 j (by omega)⟩, row_free h2 j, ⟨M.set j 119, by rw [List.length_set, h1], row_put h2 j (by omega) 119⟩, h3.setCell (p := ⟨go, j, none⟩) hH _⟩
set_option maxRecDepth 20000 in
set_option maxHeartbeats 8000000 in
theorem opens_mid (a0 : Option Addr) (len0 cap0 m : Nat) (hm : Cut m len0) (hcap : len0 ≤ cap0) (w : World) (hT : Hid (Tab w)) (hA : (a0 = none ∧ cap0 = 0 ∧ m = 0) ∨ ∃ x, a0 = some x) (L : List Nat) (hL : L.length = m) (hB : ∀ b ∈ L, b < 256) (hS : Src w a0 L)
    (tL : ByteArray) (htL : tL = sv L) :
    Calls Tryd.prog 4 #[.slice a0 len0 cap0] w fun e w' => e = .returned (.bool true) ∧ Below w.heap.size w w' := by
  have hm3 : m ≤ 3000 := by rcases hm with h | h <;> omega
  have HBy := Lib.hid (bytes_any a0 len0 cap0 m hm hcap w)
  obtain ⟨wi, hrun, hri, hbi⟩ := into_run a0 m cap0 22 L hL hm3 w hS hA
  have hmk := mk_bytes0 (m + 9) (by omega) w
  have hm9 : ((m + 9 : Nat) : Int) = (m : Int) + 9 := by omega
  rw [hm9] at hmk
  obtain ⟨Z, hZ⟩ : ∃ Z, (cells (List.replicate (m + 9) 0)).toArray = Z := ⟨_, rfl⟩
  rw [hZ] at hmk hrun
  obtain ⟨C, hC⟩ : ∃ C, L ++ four (crcOf L) = C := ⟨_, rfl⟩
  have hCl : C.length = m + 4 := by rw [← hC, List.length_append, hL]; rfl
  have hCb : ∀ b ∈ C, b < 256 := by
    rw [← hC]; intro b hb
    rcases List.mem_append.1 hb with h | h
    · exact hB b h
    · exact four_byte _ b h
  have hCo : Opens C := by rw [← hC]; exact opens_closed L
  have hCt : C.take m = L := by rw [← hC, ← hL, List.take_left]
  have hiL : Src wi (some ⟨w.heap.size, 0, none⟩) L := by
    have := src_take (row_srcs hri) m
    rwa [← hL, List.take_left] at this
  have HC := Lib.hid (close_m (some ⟨w.heap.size, 0, none⟩) (m + 9) m L hL (by omega) hB wi (Lib.hid (tab_later hT.out hbi)) (Lib.hid hiL))
  rw [hC] at HC
  have HO1 := Lib.hid (fun W (ht : Hid (Tab W)) g (hr : Row W g (m + 4) C) => open_yes (some ⟨g, 0, none⟩) (m + 4) C m hCl (by omega) (Nat.le_refl _) hCb hCo W ht (Lib.hid (row_srcs hr)))
  rw [hCt] at HO1
  obtain ⟨y, ob, hO2, hR2⟩ := open_both (some ⟨w.heap.size, 0, none⟩) (m + 9) L m hL (by omega) (by omega) hB
  have HO2 := Lib.hid hO2
  have HR2 := Lib.hid hR2
  obtain ⟨F, hF⟩ : ∃ F, sv (four (crcOf L)) = F := ⟨_, rfl⟩
  obtain ⟨tC, htC⟩ : ∃ tC, sv C = tC := ⟨_, rfl⟩
  obtain ⟨S, hSe⟩ : ∃ S, crcOf L = S := ⟨_, rfl⟩
  have HRS := Lib.hid (fun W => refSum_sv L (by omega) hB W)
  have H4 := Lib.hid (fun W => four_any (crcOf L) (crcOf_le L) W)
  rw [hF] at H4
  have hadd : ∀ w, (Op.stringOp .add tL F).run Tryd.prog w = .ok (.string tC) w := fun w => by
    rw [htL, ← hF, ← htC, ← hC, ← sv_append]
    exact run_string_add_sum w _ _ (by rw [sv_size, sv_size]; simp [four]; omega)
  have hn : a0 = none → L.length = 0 := fun e => by
    rcases hA with ⟨_, _, h⟩ | ⟨x, h⟩
    · omega
    · rw [e] at h; cases h
  have HKb : Hid (∀ W, Below w.heap.size w W → (convert 22 9 (.slice a0 m cap0)).run Tryd.prog W = .ok (.string tL) W) := Lib.hid fun W hb => by
    have := src_conv0 (src_later hS hb) cap0 hn
    rwa [hL, ← htL] at this
  have HKc : Hid (∀ W g, Row W g (m + 4) C → (convert 22 9 (.slice (some ⟨g, 0, none⟩) (m + 4) (m + 4))).run Tryd.prog W = .ok (.string tC) W) := Lib.hid fun W g hr => by
    have := src_conv0 (row_srcs hr) (m + 4) (fun h => by cases h)
    rwa [hCl, htC] at this
  have HKc2 : Hid (∀ W g, Row W g (m + 4) C → (convert 22 9 (.slice (some ⟨g, 0, none⟩) m (m + 4))).run Tryd.prog W = .ok (.string tL) W) := Lib.hid fun W g hr => by
    have := src_conv0 (src_take (row_srcs hr) m) (m + 4) (fun h => by cases h)
    rwa [hCt, hL, ← htL] at this
  have HKo : Hid (∀ W g, Row W g m L → (convert 22 9 (.slice (some ⟨g, 0, none⟩) m m)).run Tryd.prog W = .ok (.string tL) W) := Lib.hid fun W g hr => by
    have := src_conv0 (row_srcs hr) m (fun h => by cases h)
    rwa [hL, ← htL] at this
  have HKi : Hid (∀ W, Row W w.heap.size (m + 9) (L ++ List.replicate 9 0) → (convert 22 9 (.slice (some ⟨w.heap.size, 0, none⟩) m (m + 9))).run Tryd.prog W = .ok (.string tL) W) := Lib.hid fun W hr => by
    have h1 : Src W (some ⟨w.heap.size, 0, none⟩) L := by
      have := src_take (row_srcs hr) m
      rwa [← hL, List.take_left] at this
    have := src_conv0 h1 (m + 9) (fun h => by cases h)
    rwa [hL, ← htL] at this
  rw [← htL] at HR2 HRS
  rw [hSe] at H4 HRS
  have hq0 := HKb.out w (Below.refl _ _)
  have Hri := Lib.hid hri
  have Hbi := Lib.hid hbi
  have HLm := Lib.hid (fun _ : True => hL)
  have Hii : Hid (∀ W, Below wi.heap.size wi W → Src W (some ⟨w.heap.size, 0, none⟩) L) := Lib.hid fun W hb => src_later hiL hb
  clear hm hcap hB hS hri hbi hZ hC hCl hCb hCo hCt hiL hO2 hR2 hF htC hSe hn htL hL
  go_enter Tryd.func4, Tryd.ntmps4
  go_wp2_with fail
  refine HBy.out.mono ?_
  rintro e w' ⟨rfl, rfl⟩
  go_wp2_with (at_builtin; refine wpList_call_exact rfl _ _ 22 rfl _ _ _ _ rfl rfl hrun ?_)
  refine HC.out.mono ?_
  rintro e w3 ⟨gc, rfl, hgc, hrc, hb3⟩
  go_wp2_with fail
  refine (HO1.out _ (Lib.hid (tab_later hT.out (Hbi.out.trans (hb3.out.mono Hbi.out.size)))) gc hrc.out).mono ?_
  rintro e w4 ⟨go, rfl, hgo, hro, hb4⟩
  go_wp2_with fail
  have hb34 := Lib.hid (chain2 hb3.out hb4.out)
  have hbw4 := Lib.hid (chain2 Hbi.out hb34.out)
  refine (HO2.out _ (Lib.hid (tab_later hT.out hbw4.out)) (Lib.hid (Hii.out _ hb34.out))).mono ?_
  rintro e w5 ⟨px, nx, rfl, hqx, hb5⟩
  have hbw5 := Lib.hid (chain2 hbw4.out hb5.out)
  have hq5 := HKb.out _ hbw5.out
  go_wp2_with fail
  refine (HR2.out _).mono ?_
  rintro e w6 ⟨rfl, hb6'⟩
  have hb6 := Lib.hid hb6'
  clear hb6' hq5 hq0 hrun hmk
  have hb46 := Lib.hid (chain2 hb5.out hb6.out)
  have hb36 := Lib.hid (chain2 hb4.out hb46.out)
  have hbw6 := Lib.hid (chain2 hbw5.out hb6.out)
  have HK : Hid (∀ W, Below w6.heap.size w6 W → ((convert 22 9 (.slice (some ⟨gc, 0, none⟩) (m + 4) (m + 4))).run Tryd.prog W = .ok (.string tC) W ∧ (convert 22 9 (.slice a0 m cap0)).run Tryd.prog W = .ok (.string tL) W ∧ (convert 22 9 (.slice (some ⟨go, 0, none⟩) m m)).run Tryd.prog W = .ok (.string tL) W ∧ (convert 22 9 (.slice px nx nx)).run Tryd.prog W = .ok (.string y) W)) :=
    Lib.hid fun W hb => ⟨HKc.out W gc (row_later hrc.out (chain2 hb36.out hb)), HKb.out W (chain2 hbw6.out hb), HKo.out W go (row_later hro.out (chain2 hb46.out hb)), hqx.out W (chain2 hb6.out hb)⟩
  clear hqx HO1 HO2 HR2 HC HKc HKo HBy
  go_wp2_with fail
  go_region_held3 (fun W => (convert 22 9 (.slice (some ⟨gc, 0, none⟩) (m + 4) (m + 4))).run Tryd.prog W = .ok (.string tC) W ∧ (convert 22 9 (.slice a0 m cap0)).run Tryd.prog W = .ok (.string tL) W ∧ (convert 22 9 (.slice (some ⟨go, 0, none⟩) m m)).run Tryd.prog W = .ok (.string tL) W ∧ (convert 22 9 (.slice px nx nx)).run Tryd.prog W = .ok (.string y) W)
    (first | exact HK.out _ hB.out | exact HK.out _ hA.out | exact HK.out _ ((Below.refl _ _).drew))
    (first
      | (go_at_call 10; refine (sums_any _ (Lib.hid (tab_later hT.out hbw6.out.drew))).mono ?_; rintro e w7 ⟨rfl, hA'⟩; have hA : Hid (Below w6.heap.size w6 w7) := Lib.hid (((Below.refl _ w6).drew).trans hA'); clear hA')
      | (go_at_call 9; refine (HRS.out _).mono ?_; rintro e w8 ⟨rfl, rfl⟩)
      | (go_at_call 16; refine (H4.out _).mono ?_; rintro e w9 ⟨rfl, hB'⟩; have hB := Lib.hid (chain2 hA.out hB'); clear hB'))
  all_goals
    have hb39 := Lib.hid (chain2 hb36.out hB.out)
    have hb49 := Lib.hid (chain2 hb46.out hB.out)
    have hbw9 := Lib.hid (chain2 hbw6.out hB.out)
    have hri9 : Hid (Row w9 w.heap.size (m + 9) (L ++ List.replicate 9 0)) := Lib.hid (row_later Hri.out (chain2 hb3.out hb39.out))
    have hrc9 : Hid (Row w9 gc (m + 4) C) := Lib.hid (row_later hrc.out hb39.out)
    have hro9 : Hid (Row w9 go m L) := Lib.hid (row_later hro.out hb49.out)
    have hz : Hid (∀ j, m ≤ j → j < m + 9 → w9.cell? ⟨w.heap.size, j, none⟩ = some (.int .u8 0)) := Lib.hid fun j h1 h2 => by
      have h3 : j < (L ++ List.replicate 9 0).length := by rw [List.length_append, HLm.out trivial, List.length_replicate]; exact h2
      have e : (L ++ List.replicate 9 0).getD j 0 = 0 := pad_get L 9 j (by rw [HLm.out trivial]; exact h1)
      have := row_byte hri9.out j h3
      rw [e] at this
      exact this
    clear hb49 hB hA hb36 hb46 hbw6 hb5 hb6 hbw5 HK HRS H4 hadd
    go_wp2_with fail
  go_loop [12] (fun i => ∃ j : Nat, i = .int .i64 (j : Int) ∧ m ≤ j ∧ j ≤ m + 9) (fun i => m + 9 - (intOf i).toNat)
  case atStart => exact ⟨m, rfl, by omega, by omega⟩
  case round =>
    obtain ⟨j, rfl, hj1, hj2⟩ := hrel
    by_cases hj : j < m + 9
    · have hcell := hz.out j hj1 hj
      go_wp2_with fail
      go_round
      case rel => exact ⟨j + 1, by go_num, by omega, by omega⟩
      case measure => simp [intOf]; omega
    · obtain rfl : j = m + 9 := by omega
      have HP0 : Hid (Painted go m w3.heap.size w9 w9) := Lib.hid ⟨⟨L, HLm.out trivial, hro9.out⟩, Below.refl _ _⟩
      clear hz hro9 hri9 hrc9
      go_wp2_with fail
      go_loopw [13] (fun i wr => ∃ j : Nat, i = .int .i64 (j : Int) ∧ j ≤ m ∧ Hid (Painted go m w3.heap.size w9 wr)) (fun i _ => m - (intOf i).toNat)
      case atStart => exact ⟨0, rfl, by omega, HP0⟩
      case round =>
        obtain ⟨j, rfl, hjm, hp⟩ := hrel
        clear HP0
        by_cases hj : j < m
        · obtain ⟨⟨v, hcell⟩, hfree, hp'⟩ := paint hp.out hj hgo.out
          have HP := Lib.hid hp'
          clear hp' hp
          go_wp2_with fail
          go_roundw
          case rel => exact ⟨j + 1, by go_num, by omega, HP⟩
          case measure => simp [intOf]; omega
        · obtain rfl : m = j := by omega
          have hb3r := Lib.hid (hb39.out.trans hp.out.2)
          have hbwr := Lib.hid (hbw9.out.trans (hp.out.2.mono (Nat.le_trans Hbi.out.size hb3.out.size)))
          have hq1 : ∀ k, (convert 22 9 (.slice (some ⟨gc, 0, none⟩) m (m + 4))).run Tryd.prog (wr.drewN k) = .ok (.string tL) (wr.drewN k) := fun k => HKc2.out _ gc (row_later hrc.out (below_drewN hb3r.out k))
          have hq2 : ∀ k, (convert 22 9 (.slice a0 m cap0)).run Tryd.prog (wr.drewN k) = .ok (.string tL) (wr.drewN k) := fun k => HKb.out _ (below_drewN hbwr.out k)
          have hq3 : ∀ k, (convert 22 9 (.slice (some ⟨w.heap.size, 0, none⟩) m (m + 9))).run Tryd.prog (wr.drewN k) = .ok (.string tL) (wr.drewN k) := fun k => HKi.out _ (row_later Hri.out (below_drewN (chain2 hb3.out hb3r.out) k))
          have hle1 : (m : Int) ≤ (m : Int) + 4 := by omega
          clear hp
          go_wp2_with fail
          go_quiet (fail)
          go_wp2
          go_ret
          exact ⟨rfl, below_drewN hbwr.out _⟩
theorem crcOpens_walk (a0 : Option Addr) (len0 cap0 : Nat) (z0 : List Int) (w : World) (hl : laidMetH Tryd.prog [("scriptor/crc.halves", Rows.laid_scriptor_crc_halves)] w) (w0 : Came w a0 len0 cap0 z0) :
    Calls Tryd.prog 4 #[.slice a0 len0 cap0] w fun e w' => e = .returned (.bool true) ∧ Below w.heap.size w w' := by
  have hT := Lib.hid (tab_of_laid hl)
  obtain ⟨m, hm, hml, hm3⟩ := cut_of len0
  obtain ⟨L, hL, hB, hS⟩ := came_src w0 m hml
  obtain ⟨hcap, _⟩ := came_le w0
  refine opens_mid a0 len0 cap0 m hm hcap w hT ?_ L hL hB hS _ rfl
  rcases came_addr w0 with ⟨h1, h2, h3⟩ | h
  · exact .inl ⟨h1, h3, by omega⟩
  · exact .inr h
end Go.Proofs.YtkaigmgnmdhngaaDoor
