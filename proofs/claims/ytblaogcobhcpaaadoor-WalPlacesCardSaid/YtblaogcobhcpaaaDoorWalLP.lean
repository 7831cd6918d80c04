/- WalPlaces. -/
import Derived.Test.YtblaogcobhcpaaaDoorWalZD
namespace Go.Proofs.YtblaogcobhcpaaaDoor
open Go.ChangeShapes Go.WideShapes Go.ChangeAt Go.RowKit
set_option linter.unusedVariables false
set_option maxRecDepth 20000

def XB : List Nat := List.replicate 512 153
theorem xb_len : XB.length = 512 := by unfold XB; simp
theorem xb_byte : ∀ b ∈ XB, b < 256 := fun b h => by unfold XB at h; rw [(List.mem_replicate.1 h).2]; decide
theorem xb_pad : padL XB = XB := by unfold padL; rw [xb_len]; simp
/-- all sectors written -/
def wx (ns : List ByteArray) : Nat → List ByteArray
  | 0 => ns
  | j + 1 => (wx ns j).set j (sec XB)
theorem wx_all {ns : List ByteArray} (hf : Full ns) : ∀ j, j ≤ ns.length → (wx ns j).length = ns.length ∧ Full (wx ns j) ∧ ∀ q, q < j → sb (wx ns j) q = XB
  | 0, _ => ⟨rfl, hf, fun q h => by omega⟩
  | j + 1, h => by
    obtain ⟨h1, h2, h3⟩ := wx_all hf j (by omega)
    rw [wx]
    refine ⟨by rw [List.length_set, h1], full_set h2 _ _ (sec_size _ (by rw [xb_len]; exact Nat.le_refl _)), fun q hq => ?_⟩
    by_cases e : q = j
    · subst e
      rw [sb_set_same (by omega) _ xb_byte, xb_pad]
    · rw [sb_set_ne e]; exact h3 q (by omega)
theorem dq_onlyT {B : Nat} {w w' : World} {g L k l : Nat} {ns : List ByteArray} (h : Dq B w g L ns k) (ho : Fk.Only (· = l) w w') (hl : ∃ cs t fr, w.heap[l]? = some (.cells cs t fr) ∧ ¬ DiskT t) : Dq B w' g L ns k := by
  obtain ⟨s, h1, h2, h3⟩ := dq_any h
  rw [← h3]
  exact da_quiet (da_only h1 ho hl) h2
theorem fmt_out {ns : List ByteArray} (hf : Full ns) (a b : Nat) (hb : 3 ≤ b) (hab : a + b ≤ ns.length) (q : Nat) (hq : q < a ∨ a + b ≤ q) : sb (fmt ns a b) q = sb ns q := by
  obtain ⟨_, _, h3⟩ := zer_sb hf a (b - 1) (by omega)
  unfold fmt
  rw [sb_set_ne (by omega), h3 q, if_neg (by omega)]
theorem xb_sv : Fw.sv XB = sec XB := by unfold sec; rw [xb_pad]
set_option maxHeartbeats 8000000 in
theorem places_mid (a0 a1 : Int) (ha0 : -9223372036854775808 ≤ a0 ∧ a0 ≤ 9223372036854775807) (ha1 : -9223372036854775808 ≤ a1 ∧ a1 ≤ 9223372036854775807) (sp : Option Addr) (len cap : Nat) (w : World) (hG : 0 < w.heap.size) (ht : Hid (Fc.Tab w)) (q : Nat) (hq : q ≤ 5000) (hql : q ≤ len) (hlc : len ≤ cap) (hcm : cap ≤ 9223372036854775807) (hmin : min (len : Int) 5000 = (q : Int)) (b : List Nat) (hbl : b.length = q) (hbb : ∀ x ∈ b, x < 256) (hrow : Row8 w.heap.size w sp b) (hsp : sp = none → len = 0 ∧ cap = 0) :
    Calls Tryd.prog 7 #[.int .i64 a0, .int .i64 a1, .slice sp len cap] w fun e w' => e = .returned (.bool true) ∧ Below w.heap.size w w' := by
  have HNew := Lib.hid (Fk.new_any 20 (by decide) (by decide) w)
  have hfull : Full (List.replicate 20 Fk.zeros) := fun s hs => by
    rw [(List.mem_replicate.1 hs).2, Fk.zeros_sec]
    exact Fk.secS_size 0
  have HFull := Lib.hid hfull
  have HGh := Lib.hid hG
  have HRow := Lib.hid hrow
  have HBb := Lib.hid hbb
  have HBl := Lib.hid (fun _ : True => hbl)
  have HSp := Lib.hid hsp
  have HQ : Hid (True → q ≤ cap) := Lib.hid fun _ => by omega
  have hq0 : (q : Int) ≤ (len : Int) := by omega
  have hq1 : (q : Int) ≤ (cap : Int) := by omega
  obtain ⟨Z, hZ⟩ : ∃ Z : List Nat, List.replicate 512 0 = Z := ⟨_, rfl⟩
  have HMk := Lib.hid (fun W => Fc.mk_bytes 512 (by decide) W)
  rw [hZ] at HMk
  have HZ := Lib.hid (fun _ : True => hZ)
  have hmk : ∀ W : World, (Instr.makeSlice 34 (.int .i64 512) (.int .i64 512)).run Tryd.prog W = .ok (.slice (some ⟨W.heap.size, 0, none⟩) 512 512) (W.alloc (.cells (Fc.cells Z).toArray 5)) := fun W => HMk.out W
  clear hG hrow hbb hbl hfull HMk hZ
  go_enter Tryd.func7, Tryd.ntmps7
  go_wp2_with fail
  refine HNew.out.mono ?_
  rintro e w1 ⟨g, gn, gl, cn, cl, rfl, hD, hb1⟩
  have hDq : Dq w.heap.size w1 g 20 (List.replicate 20 Fk.zeros) 0 := ⟨gn, gl, cn, cl, _, List.replicate 20 Fk.zeros, [], 0, by
    have e1 : Fk.strs (List.replicate 20 Fk.zeros) = List.replicate 20 (Value.string Fk.zeros) := by unfold Fk.strs; rw [List.map_replicate]
    rw [e1]
    exact hD, rfl, by simp, by simp, by decide, by decide⟩
  have HB1 := Lib.hid hb1
  have HD1 := Lib.hid hDq
  clear hD hb1 hDq HNew
  go_wp2_with fail
  have hA : Below w1.heap.size w1 (w1.alloc (.cells (Fc.cells Z).toArray 5)) := (Below.refl _ _).alloc (Nat.le_refl _) _
  obtain ⟨gx, hgx⟩ : ∃ gx, w1.heap.size = gx := ⟨_, rfl⟩
  have hx0 : SecRow (w1.alloc (.cells (Fc.cells Z).toArray 5)) gx (List.replicate 0 153) := by
    rw [← hgx, ← HZ.out trivial]; exact sec_row0 w1
  have HX0 := Lib.hid hx0
  have HA := Lib.hid hA
  have HGX := Lib.hid hgx
  rw [hgx]
  generalize (w1.alloc (.cells (Fc.cells Z).toArray 5)) = w2 at *
  clear hx0 hA hgx
  go_loopw [10] (fun i wr => ∃ j : Nat, i = .int .i64 (j : Int) ∧ j ≤ 512 ∧ Hid (SecRow wr gx (List.replicate j 153)) ∧ Hid (Fk.Only (· = gx) w2 wr)) (fun i _ => 512 - (intOf i).toNat)
  case atStart => exact ⟨0, rfl, by omega, HX0, Lib.hid (Fk.Only.refl _ _)⟩
  case round =>
    obtain ⟨j, rfl, hj, hrw, hon⟩ := hrel
    by_cases hlt : j < 512
    · have hltI : (j : Int) < 512 := by omega
      have hw1 : IntKind.i64.wrap ((j : Int) + 1) = ((j + 1 : Nat) : Int) := by rw [IntKind.wrap_i64]; omega
      obtain ⟨v0, hv0⟩ : ∃ v0, wr.cell? ⟨gx, j, none⟩ = some v0 := by
        have h1 := hrw.out
        unfold SecRow at h1
        have hl : (padL (List.replicate j 153)).length = 512 := padL_len _ (by simp; omega)
        refine ⟨.int .u8 (((padL (List.replicate j 153)).getD j 0 : Nat) : Int), ?_⟩
        simp [World.cell?, h1, Fw.cells, hl, hlt, List.getD]
      have hfz : wr.frozen? ⟨gx, j, none⟩ = false := by
        have h1 := hrw.out
        unfold SecRow at h1
        simp [World.frozen?, h1]
      go_wp2_with fail
      go_roundw
      case rel => exact ⟨j + 1, by go_num, by omega, Lib.hid (fill_more 153 hlt hrw.out), Lib.hid (Fk.only_set hon.out j _)⟩
      case measure => simp [intOf]; omega
    · obtain rfl : j = 512 := by omega
      have HX : Hid (SecRow wr gx XB) := hrw
      have HDw : Hid (Dq w.heap.size wr g 20 (List.replicate 20 Fk.zeros) 0) := Lib.hid (dq_onlyT (dq_below HD1.out HA.out) hon.out ⟨_, _, _, HX0.out, notT8⟩)
      have HBw : Hid (Below w.heap.size w wr) := Lib.hid ((HB1.out.trans (HA.out.mono HB1.out.size)).trans (hon.out.below (fun x e => by rw [e, ← HGX.out]; exact HB1.out.size) (Nat.le_trans HB1.out.size HA.out.size)))
      have HLog : Hid (Calls Tryd.prog 10 #[] wr fun e w' => e = .returned (.bool true) ∧ Hid (Below wr.heap.size wr w')) := Lib.hid (logs_any wr (Nat.lt_of_lt_of_le HGh.out HBw.out.size) (Lib.hid (tab_keep HGh.out ht.out HBw.out)))
      have HFn := Lib.hid (fun W => format_bad none 0 5 W (has_nil 0 5 W))
      clear hrw hon HX0 HA HB1 HD1
      go_wp2_with fail
      refine HLog.out.mono ?_
      rintro e w3 ⟨rfl, hb3⟩
      have HX3 := Lib.hid (keep_row HX.out (KeepT.of_below hb3.out))
      have HD3 := Lib.hid (dq_below HDw.out hb3.out)
      have HB3 := Lib.hid (HBw.out.trans (hb3.out.mono HBw.out.size))
      clear HX HDw HBw HLog hb3
      go_wp2_with fail
      refine (HFn.out w3).mono ?_
      rintro e w4 ⟨rfl, rfl⟩
      go_wp2_with fail
      go_loopw [11] (fun i2 wr => ∃ j : Nat, i2 = .int .i64 (j : Int) ∧ j ≤ 20 ∧ Hid (SecRow wr gx XB) ∧ Hid (Dq w.heap.size wr g 20 (wx (List.replicate 20 Fk.zeros) j) j) ∧ Hid (Below w.heap.size w wr)) (fun i _ => 20 - (intOf i).toNat)
      case atStart => exact ⟨0, rfl, by omega, HX3, HD3, HB3⟩
      case round =>
        obtain ⟨j, rfl, hj, hxr, hdr, hbr⟩ := hrel
        by_cases hlt : j < 20
        · have hltI : (j : Int) < 20 := by omega
          have hw1 : IntKind.i64.wrap ((j : Int) + 1) = ((j + 1 : Nat) : Int) := by rw [IntKind.wrap_i64]; omega
          have HW := Lib.hid (dq_write hdr.out (by omega) (j : Int) j rfl hlt gx XB hxr.out (by rw [xb_len]; exact Nat.le_refl _))
          go_wp2_with fail
          refine HW.out.mono ?_
          rintro e w5 ⟨rfl, a1, a2, a3⟩
          have A1 := Lib.hid a1
          have A2 := Lib.hid (hbr.out.trans a2)
          have A3 := Lib.hid (keep_row hxr.out a3)
          clear a1 a2 a3
          go_wp2_with fail
          go_roundw
          case rel => exact ⟨j + 1, by go_num, by omega, A3, A1, A2⟩
          case measure => simp [intOf]; omega
        · obtain rfl : j = 20 := by omega
          obtain ⟨ns, hns⟩ : ∃ ns, wx (List.replicate 20 Fk.zeros) 20 = ns := ⟨_, rfl⟩
          have hall := wx_all HFull.out 20 (by simp)
          rw [hns] at hall hdr
          simp only [List.length_replicate] at hall
          have HAll := Lib.hid hall
          clear hall hns HX3 HD3 HB3
          by_cases hval : 0 ≤ a0 ∧ 3 ≤ a1 ∧ a0 ≤ 20 - a1
          · obtain ⟨a, rfl⟩ : ∃ a : Nat, a0 = (a : Int) := ⟨a0.toNat, by omega⟩
            obtain ⟨c, rfl⟩ : ∃ c : Nat, a1 = (c : Int) := ⟨a1.toNat, by omega⟩
            have hc3 : 3 ≤ c := by omega
            have hac : a + c ≤ 20 := by omega
            have HFm := Lib.hid (format_q hdr.out a c hc3 hac (by decide) (by decide) HGh.out (Lib.hid (tab_keep HGh.out ht.out hbr.out)))
            have n1 : ¬ ((a : Int) < 0) := by omega
            have n2 : ¬ ((c : Int) < 3) := by omega
            have n3 : ¬ ((20 : Int) < (c : Int)) := by omega
            have hw3 : IntKind.i64.wrap (20 - (c : Int)) = 20 - (c : Int) := by rw [IntKind.wrap_i64]; omega
            have n4 : ¬ (20 - (c : Int) < (a : Int)) := by omega
            clear hval ha0 ha1
            go_wp2_with fail
            refine HFm.out.mono ?_
            rintro e w5 ⟨rfl, hs, b1, b2, b3⟩
            have HS5 := Lib.hid hs
            have HX5 := Lib.hid (keep_row hxr.out b2)
            have HB5 := Lib.hid (hbr.out.trans b1)
            have HT5 := Lib.hid b3
            have HOp : Hid (Calls Tryd.prog 18 #[.pointer (some ⟨g, 0, none⟩), .int .i64 (a : Int), .int .i64 (c : Int)] w5 fun e w' => ∃ (l' : Nat) (rs : Value), e = .returned (.tuple #[.pointer (some ⟨l', 0, none⟩), rs, .int .i64 0]) ∧ w5.heap.size ≤ l' ∧ Hid (∃ s, Lg w.heap.size w' g l' 20 s a (a + c) 1 0 [] (a + 2) 60 ∧ Quiet s ∧ ∀ q, q < a ∨ a + c ≤ q → q < 20 → sb s.ls q = XB) ∧ Hid (Below w5.heap.size w5 w')) := Lib.hid (by
              obtain ⟨s', d1, d2, d3, d4⟩ := HS5.out
              have hnow := now_ls d3
              obtain ⟨x1, x2, x3⟩ := HAll.out
              have hinv := LInv.fmt x2 a c hc3 (by omega)
              refine (lg_open (da_quiet d1.out d2) (by rw [hnow, d4]; exact hinv) hc3 hac (by decide) HGh.out HT5.out).mono ?_
              rintro e w' ⟨l', rs, rfl, e1, e2, e3, e4⟩
              refine ⟨l', rs, rfl, e1, Lib.hid ⟨s', ⟨da_mono (da_below d1.out e4.out) (by omega), d3, by rw [d4]; exact hinv, e2.out, Nat.le_trans HB5.out.size e1, Fc.tab_later HT5.out e4.out, ⟨hac, by decide⟩, HGh.out⟩, d2, fun q h1 h2 => ?_⟩, e4⟩
              rw [d4, fmt_out x2 a c hc3 (by omega) q h1]
              exact x3 q h2)
            clear hs b1 b2 b3 HFm
            go_wp2_with fail
            refine HOp.out.mono ?_
            rintro e w6 ⟨l', rs, rfl, hl', hL6, hb6⟩
            have HX6 := Lib.hid (keep_row HX5.out (KeepT.of_below hb6.out))
            have HB6 := Lib.hid (HB5.out.trans (hb6.out.mono HB5.out.size))
            have hgl : gx ≠ l' := fun e => by
              have h1 := (Array.getElem?_eq_some_iff.1 HX5.out).1
              omega
            have HGL := Lib.hid hgl
            have HR6 : Hid (Row8 w.heap.size w6 sp b) := Lib.hid (row8_same HRow.out fun g0 hor x0 hx => by
              have hlt0 := (Array.getElem?_eq_some_iff.1 hx).1
              rw [HB6.out.block g0 hlt0]; exact hx)
            have HApp : Hid (∀ (capv : Nat), q ≤ capv → Calls Tryd.prog 12 #[.pointer (some ⟨l', 0, none⟩), .slice sp q capv] w6 fun e w' => (e = .returned (.int .i64 0) ∨ e = .returned (.int .i64 7)) ∧ Hid (∃ s bs p, Lg w.heap.size w' g l' 20 s a (a + c) 1 0 bs p 100 ∧ Quiet s ∧ ∀ q, q < a ∨ a + c ≤ q → q < 20 → sb s.ls q = XB) ∧ Hid (SecRow w' gx XB) ∧ Hid (Below w.heap.size w6 w')) := Lib.hid fun capv hcapv => by
              obtain ⟨s, h1, h2, h3⟩ := hL6.out
              by_cases hfit : a + 2 + need q ≤ a + c
              · refine (lg_append_o h1 h2 (by decide) b q capv sp (HBl.out trivial) (by omega) hcapv HBb.out HR6.out hfit).mono ?_
                rintro e w' ⟨rfl, e1, e2, e3⟩
                obtain ⟨s', f1, f2, f3⟩ := e1.out
                exact ⟨.inl rfl, Lib.hid ⟨s', _, _, f1.mono (by unfold need; omega), f2, fun q h4 h5 => by rw [f3 q h4]; exact h3 q h4 h5⟩, Lib.hid (e3.out.cells HGL.out HX6.out notT8), e2⟩
              · refine (lg_full h1 q capv sp (by omega) (by omega)).mono ?_
                rintro e w' ⟨rfl, e1⟩
                exact ⟨.inr rfl, Lib.hid ⟨s, _, _, (h1.below e1).mono (by decide), h2, h3⟩, Lib.hid (keep_row HX6.out (KeepT.of_below e1)), Lib.hid (e1.mono HB6.out.size)⟩
            clear hL6 hb6 HOp HS5 HX5 HB5 HT5 hdr hbr hxr HRow hl' hgl HR6
            go_wp2_with fail
            cases sp with
            | none =>
              obtain ⟨rfl, rfl⟩ := hsp rfl
              obtain rfl : q = 0 := by omega
              have HApp := Lib.hid (HApp.out 0 (Nat.le_refl _))
              go_wp2_with fail
              refine HApp.out.mono ?_
              rintro e w7 ⟨a7, hL7, hX7, hb7⟩
              have HB7 := Lib.hid (HB6.out.trans hb7.out)
              clear HApp hb7
              have HTr : Hid (Calls Tryd.prog 13 #[.pointer (some ⟨l', 0, none⟩)] w7 fun e w' => e = .returned (.int .i64 0) ∧ Hid (∃ ns, Dq w.heap.size w' g 20 ns 200 ∧ Full ns ∧ ∀ q, q < a ∨ a + c ≤ q → q < 20 → sb ns q = XB) ∧ Hid (SecRow w' gx XB) ∧ Hid (Below w.heap.size w7 w')) := Lib.hid (by
                obtain ⟨s, bs, p, h1, h2, h3⟩ := hL7.out
                refine (lg_trunc_o h1 h2 (by decide) (by decide)).mono ?_
                rintro e w' ⟨rfl, e1, e2, e3⟩
                obtain ⟨s', f1, f2, f3⟩ := e1.out
                have hnow := now_ls f1.w0
                have hd := da_quiet f1.da f2
                rw [hnow] at hd
                exact ⟨rfl, Lib.hid ⟨s'.ls, dq_mono hd (by decide), f1.inv.full, fun q h4 h5 => by rw [f3 q h4]; exact h3 q h4 h5⟩, Lib.hid (e3.out.cells HGL.out hX7.out notT8), e2⟩)
              have hw4 : IntKind.i64.wrap ((a : Int) + (c : Int)) = ((a + c : Nat) : Int) := by rw [IntKind.wrap_i64]; omega
              clear n1 n2 n3 n4 hw3 hq0 hq1
              rcases a7 with rfl | rfl
              · go_wp2_with fail
                refine HTr.out.mono ?_
                rintro e w8 ⟨rfl, hN8, hX8, hb8⟩
                have HB8 := Lib.hid (HB7.out.trans hb8.out)
                obtain ⟨ms, hD8, hF8, hO8⟩ := hN8.out
                have HD8 := Lib.hid hD8
                have HO8 := Lib.hid hO8
                have HF8 := Lib.hid hF8
                have hms : ms.length = 20 := dq_len hD8
                have HMs := Lib.hid hms
                clear hN8 hD8 hF8 hO8 hms hb8 HTr hL7 hX7 HB7
                go_wp2_with fail
                go_loopw [16] (fun i3 wr => ∃ j : Nat, i3 = .int .i64 (j : Int) ∧ j ≤ 20 ∧ Hid (Below w8.heap.size w8 wr)) (fun i _ => 20 - (intOf i).toNat)
                case atStart => exact ⟨0, rfl, by omega, Lib.hid (Below.refl _ _)⟩
                case round =>
                  obtain ⟨j, rfl, hj, hb9⟩ := hrel
                  by_cases hlt : j < 20
                  · have hltI : (j : Int) < 20 := by omega
                    have hw1 : IntKind.i64.wrap ((j : Int) + 1) = ((j + 1 : Nat) : Int) := by rw [IntKind.wrap_i64]; omega
                    obtain ⟨s1, s2, s3⟩ := sb_get HF8.out j (by rw [HMs.out]; exact hlt)
                    obtain ⟨A, hA⟩ : ∃ A, sb ms j = A := ⟨_, rfl⟩
                    have HA := Lib.hid (fun _ : True => hA)
                    rw [hA] at s1 s2 s3
                    have HRd : Hid (Calls Tryd.prog 31 #[.pointer (some ⟨g, 0, none⟩), .int .i64 (j : Int)] wr fun e w' => ∃ gz cz, e = .returned (.tuple #[.slice (some ⟨gz, 0, none⟩) 512 cz, .int .i64 0]) ∧ Hid (Fc.Src w' (some ⟨gz, 0, none⟩) A) ∧ Hid (Below wr.heap.size wr w')) := Lib.hid (by
                      have hsz : (Fw.sv A).size = 512 := by rw [Fw.sv_size, s2]
                      refine (dq_read2 (dq_below HD8.out hb9.out) (j : Int) j rfl hlt _ s1).mono ?_
                      rintro e w' ⟨cz, rfl, z0, z1, z2, z3⟩
                      rw [hsz] at z0
                      rw [bytesOf_sv _ s3] at z1
                      rw [hsz]
                      exact ⟨_, cz, rfl, Lib.hid z1, Lib.hid z3⟩)
                    have HL2 := Lib.hid s2
                    clear s1 s2 s3 hA
                    go_wp2_with fail
                    refine HRd.out.mono ?_
                    rintro e w9 ⟨gz, cz, rfl, hsr, hb10⟩
                    have HB10 := Lib.hid (hb9.out.trans (hb10.out.mono hb9.out.size))
                    have hcx := sec_conv' (keep_row hX8.out (KeepT.of_below HB10.out)) (by rw [xb_len]; exact Nat.le_refl _)
                    have hcs := Fc.src_conv hsr.out cz (by rw [HL2.out]; decide)
                    rw [HL2.out] at hcs
                    by_cases hin : a ≤ j ∧ j < a + c
                    · have m1 : ¬ ((j : Int) < (a : Int)) := by omega
                      have m2 : ¬ (((a + c : Nat) : Int) ≤ (j : Int)) := by omega
                      clear hsr hb10 HRd hin
                      go_wp2_with fail
                      go_roundw
                      case rel => exact ⟨j + 1, by go_num, by omega, HB10⟩
                      case measure => simp [intOf]; omega
                    · have hAX : A = XB := by rw [← HA.out trivial]; exact HO8.out j (by omega) hlt
                      have hes : Fc.sv A = sec XB := by rw [hAX]; exact xb_sv
                      rw [hes] at hcs
                      by_cases m1 : (j : Int) < (a : Int)
                      · clear hsr hb10 HRd hin hAX hes
                        go_wp2_with fail
                        go_roundw
                        case rel => exact ⟨j + 1, by go_num, by omega, HB10⟩
                        case measure => simp [intOf]; omega
                      · have m2 : ((a + c : Nat) : Int) ≤ (j : Int) := by omega
                        clear hsr hb10 HRd hin hAX hes
                        go_wp2_with fail
                        go_roundw
                        case rel => exact ⟨j + 1, by go_num, by omega, HB10⟩
                        case measure => simp [intOf]; omega
                  · obtain rfl : j = 20 := by omega
                    go_wp2_with fail
                    go_ret
                    exact ⟨rfl, HB8.out.trans (hb9.out.mono HB8.out.size)⟩
              · go_wp2_with fail
                refine HTr.out.mono ?_
                rintro e w8 ⟨rfl, hN8, hX8, hb8⟩
                have HB8 := Lib.hid (HB7.out.trans hb8.out)
                obtain ⟨ms, hD8, hF8, hO8⟩ := hN8.out
                have HD8 := Lib.hid hD8
                have HO8 := Lib.hid hO8
                have HF8 := Lib.hid hF8
                have hms : ms.length = 20 := dq_len hD8
                have HMs := Lib.hid hms
                clear hN8 hD8 hF8 hO8 hms hb8 HTr hL7 hX7 HB7
                go_wp2_with fail
                go_loopw [16] (fun i3 wr => ∃ j : Nat, i3 = .int .i64 (j : Int) ∧ j ≤ 20 ∧ Hid (Below w8.heap.size w8 wr)) (fun i _ => 20 - (intOf i).toNat)
                case atStart => exact ⟨0, rfl, by omega, Lib.hid (Below.refl _ _)⟩
                case round =>
                  obtain ⟨j, rfl, hj, hb9⟩ := hrel
                  by_cases hlt : j < 20
                  · have hltI : (j : Int) < 20 := by omega
                    have hw1 : IntKind.i64.wrap ((j : Int) + 1) = ((j + 1 : Nat) : Int) := by rw [IntKind.wrap_i64]; omega
                    obtain ⟨s1, s2, s3⟩ := sb_get HF8.out j (by rw [HMs.out]; exact hlt)
                    obtain ⟨A, hA⟩ : ∃ A, sb ms j = A := ⟨_, rfl⟩
                    have HA := Lib.hid (fun _ : True => hA)
                    rw [hA] at s1 s2 s3
                    have HRd : Hid (Calls Tryd.prog 31 #[.pointer (some ⟨g, 0, none⟩), .int .i64 (j : Int)] wr fun e w' => ∃ gz cz, e = .returned (.tuple #[.slice (some ⟨gz, 0, none⟩) 512 cz, .int .i64 0]) ∧ Hid (Fc.Src w' (some ⟨gz, 0, none⟩) A) ∧ Hid (Below wr.heap.size wr w')) := Lib.hid (by
                      have hsz : (Fw.sv A).size = 512 := by rw [Fw.sv_size, s2]
                      refine (dq_read2 (dq_below HD8.out hb9.out) (j : Int) j rfl hlt _ s1).mono ?_
                      rintro e w' ⟨cz, rfl, z0, z1, z2, z3⟩
                      rw [hsz] at z0
                      rw [bytesOf_sv _ s3] at z1
                      rw [hsz]
                      exact ⟨_, cz, rfl, Lib.hid z1, Lib.hid z3⟩)
                    have HL2 := Lib.hid s2
                    clear s1 s2 s3 hA
                    go_wp2_with fail
                    refine HRd.out.mono ?_
                    rintro e w9 ⟨gz, cz, rfl, hsr, hb10⟩
                    have HB10 := Lib.hid (hb9.out.trans (hb10.out.mono hb9.out.size))
                    have hcx := sec_conv' (keep_row hX8.out (KeepT.of_below HB10.out)) (by rw [xb_len]; exact Nat.le_refl _)
                    have hcs := Fc.src_conv hsr.out cz (by rw [HL2.out]; decide)
                    rw [HL2.out] at hcs
                    by_cases hin : a ≤ j ∧ j < a + c
                    · have m1 : ¬ ((j : Int) < (a : Int)) := by omega
                      have m2 : ¬ (((a + c : Nat) : Int) ≤ (j : Int)) := by omega
                      clear hsr hb10 HRd hin
                      go_wp2_with fail
                      go_roundw
                      case rel => exact ⟨j + 1, by go_num, by omega, HB10⟩
                      case measure => simp [intOf]; omega
                    · have hAX : A = XB := by rw [← HA.out trivial]; exact HO8.out j (by omega) hlt
                      have hes : Fc.sv A = sec XB := by rw [hAX]; exact xb_sv
                      rw [hes] at hcs
                      by_cases m1 : (j : Int) < (a : Int)
                      · clear hsr hb10 HRd hin hAX hes
                        go_wp2_with fail
                        go_roundw
                        case rel => exact ⟨j + 1, by go_num, by omega, HB10⟩
                        case measure => simp [intOf]; omega
                      · have m2 : ((a + c : Nat) : Int) ≤ (j : Int) := by omega
                        clear hsr hb10 HRd hin hAX hes
                        go_wp2_with fail
                        go_roundw
                        case rel => exact ⟨j + 1, by go_num, by omega, HB10⟩
                        case measure => simp [intOf]; omega
                  · obtain rfl : j = 20 := by omega
                    go_wp2_with fail
                    go_ret
                    exact ⟨rfl, HB8.out.trans (hb9.out.mono HB8.out.size)⟩
            | some x =>
              have HApp := Lib.hid (HApp.out cap (HQ.out trivial))
              go_wp2_with fail
              refine HApp.out.mono ?_
              rintro e w7 ⟨a7, hL7, hX7, hb7⟩
              have HB7 := Lib.hid (HB6.out.trans hb7.out)
              clear HApp hb7
              have HTr : Hid (Calls Tryd.prog 13 #[.pointer (some ⟨l', 0, none⟩)] w7 fun e w' => e = .returned (.int .i64 0) ∧ Hid (∃ ns, Dq w.heap.size w' g 20 ns 200 ∧ Full ns ∧ ∀ q, q < a ∨ a + c ≤ q → q < 20 → sb ns q = XB) ∧ Hid (SecRow w' gx XB) ∧ Hid (Below w.heap.size w7 w')) := Lib.hid (by
                obtain ⟨s, bs, p, h1, h2, h3⟩ := hL7.out
                refine (lg_trunc_o h1 h2 (by decide) (by decide)).mono ?_
                rintro e w' ⟨rfl, e1, e2, e3⟩
                obtain ⟨s', f1, f2, f3⟩ := e1.out
                have hnow := now_ls f1.w0
                have hd := da_quiet f1.da f2
                rw [hnow] at hd
                exact ⟨rfl, Lib.hid ⟨s'.ls, dq_mono hd (by decide), f1.inv.full, fun q h4 h5 => by rw [f3 q h4]; exact h3 q h4 h5⟩, Lib.hid (e3.out.cells HGL.out hX7.out notT8), e2⟩)
              have hw4 : IntKind.i64.wrap ((a : Int) + (c : Int)) = ((a + c : Nat) : Int) := by rw [IntKind.wrap_i64]; omega
              clear n1 n2 n3 n4 hw3 hq0 hq1
              rcases a7 with rfl | rfl
              · go_wp2_with fail
                refine HTr.out.mono ?_
                rintro e w8 ⟨rfl, hN8, hX8, hb8⟩
                have HB8 := Lib.hid (HB7.out.trans hb8.out)
                obtain ⟨ms, hD8, hF8, hO8⟩ := hN8.out
                have HD8 := Lib.hid hD8
                have HO8 := Lib.hid hO8
                have HF8 := Lib.hid hF8
                have hms : ms.length = 20 := dq_len hD8
                have HMs := Lib.hid hms
                clear hN8 hD8 hF8 hO8 hms hb8 HTr hL7 hX7 HB7
                go_wp2_with fail
                go_loopw [16] (fun i3 wr => ∃ j : Nat, i3 = .int .i64 (j : Int) ∧ j ≤ 20 ∧ Hid (Below w8.heap.size w8 wr)) (fun i _ => 20 - (intOf i).toNat)
                case atStart => exact ⟨0, rfl, by omega, Lib.hid (Below.refl _ _)⟩
                case round =>
                  obtain ⟨j, rfl, hj, hb9⟩ := hrel
                  by_cases hlt : j < 20
                  · have hltI : (j : Int) < 20 := by omega
                    have hw1 : IntKind.i64.wrap ((j : Int) + 1) = ((j + 1 : Nat) : Int) := by rw [IntKind.wrap_i64]; omega
                    obtain ⟨s1, s2, s3⟩ := sb_get HF8.out j (by rw [HMs.out]; exact hlt)
                    obtain ⟨A, hA⟩ : ∃ A, sb ms j = A := ⟨_, rfl⟩
                    have HA := Lib.hid (fun _ : True => hA)
                    rw [hA] at s1 s2 s3
                    have HRd : Hid (Calls Tryd.prog 31 #[.pointer (some ⟨g, 0, none⟩), .int .i64 (j : Int)] wr fun e w' => ∃ gz cz, e = .returned (.tuple #[.slice (some ⟨gz, 0, none⟩) 512 cz, .int .i64 0]) ∧ Hid (Fc.Src w' (some ⟨gz, 0, none⟩) A) ∧ Hid (Below wr.heap.size wr w')) := Lib.hid (by
                      have hsz : (Fw.sv A).size = 512 := by rw [Fw.sv_size, s2]
                      refine (dq_read2 (dq_below HD8.out hb9.out) (j : Int) j rfl hlt _ s1).mono ?_
                      rintro e w' ⟨cz, rfl, z0, z1, z2, z3⟩
                      rw [hsz] at z0
                      rw [bytesOf_sv _ s3] at z1
                      rw [hsz]
                      exact ⟨_, cz, rfl, Lib.hid z1, Lib.hid z3⟩)
                    have HL2 := Lib.hid s2
                    clear s1 s2 s3 hA
                    go_wp2_with fail
                    refine HRd.out.mono ?_
                    rintro e w9 ⟨gz, cz, rfl, hsr, hb10⟩
                    have HB10 := Lib.hid (hb9.out.trans (hb10.out.mono hb9.out.size))
                    have hcx := sec_conv' (keep_row hX8.out (KeepT.of_below HB10.out)) (by rw [xb_len]; exact Nat.le_refl _)
                    have hcs := Fc.src_conv hsr.out cz (by rw [HL2.out]; decide)
                    rw [HL2.out] at hcs
                    by_cases hin : a ≤ j ∧ j < a + c
                    · have m1 : ¬ ((j : Int) < (a : Int)) := by omega
                      have m2 : ¬ (((a + c : Nat) : Int) ≤ (j : Int)) := by omega
                      clear hsr hb10 HRd hin
                      go_wp2_with fail
                      go_roundw
                      case rel => exact ⟨j + 1, by go_num, by omega, HB10⟩
                      case measure => simp [intOf]; omega
                    · have hAX : A = XB := by rw [← HA.out trivial]; exact HO8.out j (by omega) hlt
                      have hes : Fc.sv A = sec XB := by rw [hAX]; exact xb_sv
                      rw [hes] at hcs
                      by_cases m1 : (j : Int) < (a : Int)
                      · clear hsr hb10 HRd hin hAX hes
                        go_wp2_with fail
                        go_roundw
                        case rel => exact ⟨j + 1, by go_num, by omega, HB10⟩
                        case measure => simp [intOf]; omega
                      · have m2 : ((a + c : Nat) : Int) ≤ (j : Int) := by omega
                        clear hsr hb10 HRd hin hAX hes
                        go_wp2_with fail
                        go_roundw
                        case rel => exact ⟨j + 1, by go_num, by omega, HB10⟩
                        case measure => simp [intOf]; omega
                  · obtain rfl : j = 20 := by omega
                    go_wp2_with fail
                    go_ret
                    exact ⟨rfl, HB8.out.trans (hb9.out.mono HB8.out.size)⟩
              · go_wp2_with fail
                refine HTr.out.mono ?_
                rintro e w8 ⟨rfl, hN8, hX8, hb8⟩
                have HB8 := Lib.hid (HB7.out.trans hb8.out)
                obtain ⟨ms, hD8, hF8, hO8⟩ := hN8.out
                have HD8 := Lib.hid hD8
                have HO8 := Lib.hid hO8
                have HF8 := Lib.hid hF8
                have hms : ms.length = 20 := dq_len hD8
                have HMs := Lib.hid hms
                clear hN8 hD8 hF8 hO8 hms hb8 HTr hL7 hX7 HB7
                go_wp2_with fail
                go_loopw [16] (fun i3 wr => ∃ j : Nat, i3 = .int .i64 (j : Int) ∧ j ≤ 20 ∧ Hid (Below w8.heap.size w8 wr)) (fun i _ => 20 - (intOf i).toNat)
                case atStart => exact ⟨0, rfl, by omega, Lib.hid (Below.refl _ _)⟩
                case round =>
                  obtain ⟨j, rfl, hj, hb9⟩ := hrel
                  by_cases hlt : j < 20
                  · have hltI : (j : Int) < 20 := by omega
                    have hw1 : IntKind.i64.wrap ((j : Int) + 1) = ((j + 1 : Nat) : Int) := by rw [IntKind.wrap_i64]; omega
                    obtain ⟨s1, s2, s3⟩ := sb_get HF8.out j (by rw [HMs.out]; exact hlt)
                    obtain ⟨A, hA⟩ : ∃ A, sb ms j = A := ⟨_, rfl⟩
                    have HA := Lib.hid (fun _ : True => hA)
                    rw [hA] at s1 s2 s3
                    have HRd : Hid (Calls Tryd.prog 31 #[.pointer (some ⟨g, 0, none⟩), .int .i64 (j : Int)] wr fun e w' => ∃ gz cz, e = .returned (.tuple #[.slice (some ⟨gz, 0, none⟩) 512 cz, .int .i64 0]) ∧ Hid (Fc.Src w' (some ⟨gz, 0, none⟩) A) ∧ Hid (Below wr.heap.size wr w')) := Lib.hid (by
                      have hsz : (Fw.sv A).size = 512 := by rw [Fw.sv_size, s2]
                      refine (dq_read2 (dq_below HD8.out hb9.out) (j : Int) j rfl hlt _ s1).mono ?_
                      rintro e w' ⟨cz, rfl, z0, z1, z2, z3⟩
                      rw [hsz] at z0
                      rw [bytesOf_sv _ s3] at z1
                      rw [hsz]
                      exact ⟨_, cz, rfl, Lib.hid z1, Lib.hid z3⟩)
                    have HL2 := Lib.hid s2
                    clear s1 s2 s3 hA
                    go_wp2_with fail
                    refine HRd.out.mono ?_
                    rintro e w9 ⟨gz, cz, rfl, hsr, hb10⟩
                    have HB10 := Lib.hid (hb9.out.trans (hb10.out.mono hb9.out.size))
                    have hcx := sec_conv' (keep_row hX8.out (KeepT.of_below HB10.out)) (by rw [xb_len]; exact Nat.le_refl _)
                    have hcs := Fc.src_conv hsr.out cz (by rw [HL2.out]; decide)
                    rw [HL2.out] at hcs
                    by_cases hin : a ≤ j ∧ j < a + c
                    · have m1 : ¬ ((j : Int) < (a : Int)) := by omega
                      have m2 : ¬ (((a + c : Nat) : Int) ≤ (j : Int)) := by omega
                      clear hsr hb10 HRd hin
                      go_wp2_with fail
                      go_roundw
                      case rel => exact ⟨j + 1, by go_num, by omega, HB10⟩
                      case measure => simp [intOf]; omega
                    · have hAX : A = XB := by rw [← HA.out trivial]; exact HO8.out j (by omega) hlt
                      have hes : Fc.sv A = sec XB := by rw [hAX]; exact xb_sv
                      rw [hes] at hcs
                      by_cases m1 : (j : Int) < (a : Int)
                      · clear hsr hb10 HRd hin hAX hes
                        go_wp2_with fail
                        go_roundw
                        case rel => exact ⟨j + 1, by go_num, by omega, HB10⟩
                        case measure => simp [intOf]; omega
                      · have m2 : ((a + c : Nat) : Int) ≤ (j : Int) := by omega
                        clear hsr hb10 HRd hin hAX hes
                        go_wp2_with fail
                        go_roundw
                        case rel => exact ⟨j + 1, by go_num, by omega, HB10⟩
                        case measure => simp [intOf]; omega
                  · obtain rfl : j = 20 := by omega
                    go_wp2_with fail
                    go_ret
                    exact ⟨rfl, HB8.out.trans (hb9.out.mono HB8.out.size)⟩
          · have HHb := Lib.hid (fun W (hW : Dq w.heap.size W g 20 ns 20) => has_bad hW a0 a1 ha1.2 (by decide) (by omega))
            have HFb := Lib.hid (format_bad _ a0 a1 wr (HHb.out wr hdr.out))
            have HOb := Lib.hid (open_bad _ a0 a1 wr (HHb.out wr hdr.out))
            go_wp2_with fail
            refine HFb.out.mono ?_
            rintro e w5 ⟨rfl, rfl⟩
            go_wp2_with fail
            refine HOb.out.mono ?_
            rintro e w5 ⟨rfl, rfl⟩
            clear HHb HFb HOb
            rcases (show a0 < 0 ∨ (¬ a0 < 0 ∧ a1 < 3) ∨ (¬ a0 < 0 ∧ ¬ a1 < 3 ∧ 20 < a1) ∨ (¬ a0 < 0 ∧ ¬ a1 < 3 ∧ ¬ 20 < a1 ∧ 20 - a1 < a0) by omega) with h1 | ⟨h1, h2⟩ | ⟨h1, h2, h3⟩ | ⟨h1, h2, h3, h4⟩
            · clear hval ha0 ha1
              go_wp2_with fail
              go_ret
              exact ⟨rfl, hbr.out⟩
            · clear hval ha0 ha1
              go_wp2_with fail
              go_ret
              exact ⟨rfl, hbr.out⟩
            · clear hval ha0 ha1
              go_wp2_with fail
              go_ret
              exact ⟨rfl, hbr.out⟩
            · have hw3 : IntKind.i64.wrap (20 - a1) = 20 - a1 := by rw [IntKind.wrap_i64]; omega
              clear hval ha0 ha1
              go_wp2_with fail
              go_ret
              exact ⟨rfl, hbr.out⟩
end Go.Proofs.YtblaogcobhcpaaaDoor
