/- What the document's Scan parses of a record's first sector, against what read does. -/
import Derived.Test.YtfhgdcljhncjmaaDoorWalSA
namespace Go.Proofs.YtfhgdcljhncjmaaDoor
open Go.ChangeShapes Go.WideShapes Go.ChangeAt Go.RowKit
set_option linter.unusedVariables false
set_option maxRecDepth 20000

/-- the document's reader, one number -/
theorem refNumS (lo hi : Int) (L : List Nat) (er v : Int) (L' : List Nat) (er' : Int) (hn : numS lo hi (L, er) = (v, L', er')) (hL : InOk L) (W : World) (gi : Nat) (hb : Hid (Fw.RBox W gi (Fw.sv L) er)) :
    Calls Tryd.prog 41 #[.pointer (some ⟨gi, 0, none⟩), .int .i64 lo, .int .i64 hi] W fun e w' => e = .returned (.int .i64 v) ∧ Hid (Fw.RBox w' gi (Fw.sv L') er') ∧ Hid (Below gi W w') := by
  have hlt : gi < W.heap.size := (Array.getElem?_eq_some_iff.1 hb.out).1
  have hbt : Fw.bytesOf (Fw.sv L) = L := bytesOf_sv L hL.2
  by_cases he : er = 0
  · subst he
    rw [numS_go] at hn
    have h1 : (Fw.rdB lo hi L).1 = v := congrArg (fun x => x.1) hn
    have h2 : L.drop (Fw.rdB lo hi L).2.1 = L' := congrArg (fun x => x.2.1) hn
    have h3 : (Fw.rdB lo hi L).2.2 = er' := congrArg (fun x => x.2.2) hn
    refine (Fw.refInNum_any gi (Fw.sv L) lo hi (by rw [Fw.sv_size]; exact hL.1) W hb).mono ?_
    rintro e w' ⟨rfl, k1, k2⟩
    rw [hbt] at k1 ⊢
    have e1 : (Fw.sv L).extract (Fw.rdB lo hi L).2.1 (Fw.sv L).size = Fw.sv (L.drop (Fw.rdB lo hi L).2.1) := Fc.sv_drop L _
    rw [e1, h2, h3] at k1
    exact ⟨by rw [h1], Lib.hid k1, Lib.hid (k2.below (fun k e => e ▸ Nat.le_refl _) (Nat.le_of_lt hlt))⟩
  · rw [numS_stop _ _ _ _ he] at hn
    have h1 : (0 : Int) = v := congrArg (fun x => x.1) hn
    have h2 : L = L' := congrArg (fun x => x.2.1) hn
    have h3 : er = er' := congrArg (fun x => x.2.2) hn
    subst h1 h2 h3
    refine (Fw.refInNum_err gi (Fw.sv L) er lo hi he W hb).mono ?_
    rintro e w' ⟨rfl, rfl⟩
    exact ⟨rfl, hb, Lib.hid (Below.refl _ _)⟩
/-- age, number, how many bytes, an error -/
def hdR (A : List Nat) : Int × Int × Int × Int :=
  let r1 := numS 1 4611686018427387904 (A.drop 1, 0)
  let r2 := numS 0 4611686018427387904 r1.2
  let r3 := numS 0 16777216 r2.2
  let r4 := numS 0 4294967296 r3.2
  (r1.1, r2.1, r3.1, r4.2.2)
theorem hdR_first (ag nr : Int) (n s : Nat) (h1 : 1 ≤ ag) (h2 : ag ≤ 4611686018427387904) (h3 : 0 ≤ nr) (h4 : nr ≤ 4611686018427387904) (hn : n ≤ 16777216) (hs : s < 4294967296) : hdR (padL (firstL ag nr (n : Int) (s : Int))) = (ag, nr, (n : Int), 0) := by
  obtain ⟨R, e⟩ := first_drop ag nr (n : Int) (s : Int)
  have step : ∀ (lo hi v : Int) (T : List Nat), Fw.IntOk v → lo ≤ v → v ≤ hi → numS lo hi (Fw.vb (Fw.zz v) ++ T, 0) = (v, T, 0) := fun lo hi v T hv h1 h2 => by
    rw [numS_go, Fw.rdB_num v hv lo hi h1 h2 T, List.drop_left]
  unfold hdR
  rw [e]
  simp only [step 1 4611686018427387904 ag _ ⟨by omega, by omega⟩ h1 h2, step 0 4611686018427387904 nr _ ⟨by omega, by omega⟩ h3 h4, step 0 16777216 (n : Int) _ ⟨by omega, by omega⟩ (by omega) (by omega), step 0 4294967296 (s : Int) _ ⟨by omega, by omega⟩ (by omega) (by omega)]
/-- a record that read tells, told by its first sector -/
theorem readS_parts {ns : List ByteArray} (hf : Full ns) (q en : Nat) (hq : q < en) (hen : en ≤ ns.length) (hen2 : en ≤ 190) (ag nr : Int) (b : List Nat) (h : readS ns q en ag nr = some b) :
    ∃ n : Nat, need n ≤ en - q ∧ PartsOk ns q n ∧ b = buf ns q n (nparts n) ∧ sb ns q = padL (firstL ag nr (n : Int) ((Fc.crcOf (buf ns q n (nparts n)) : Nat) : Int)) := by
  unfold readS at h
  rw [if_neg (by omega : ¬ q = en)] at h
  split at h
  case isFalse => cases h
  rename_i hc
  have hb := Option.some.inj h
  obtain ⟨_, hl, _⟩ := sb_get hf q (by omega)
  have hh := (hd4_int (sb ns q) (by omega) (sb_byte ns q) ag nr (roomI q en)).2.2 hc.1
  obtain ⟨n, hn⟩ : ∃ n : Nat, (hd4 (sb ns q) ag nr (roomI q en)).1 = (n : Int) := ⟨(hd4 (sb ns q) ag nr (roomI q en)).1.toNat, by omega⟩
  rw [hn] at hc hb hh
  simp only [Int.toNat_natCast] at hc hb
  refine ⟨n, ?_, hc.2.2.1, hb.symm, ?_⟩
  · have h5 := hh.2
    unfold roomI at h5
    rw [if_neg (by omega : ¬ q = en)] at h5
    unfold need
    omega
  · rw [hc.2.2.2]; exact hc.2.1
theorem need_mono {a b : Nat} (h : need a ≤ b) (hb : b ≤ 190) : a ≤ 100000 := by unfold need at h; omega
/-- what stands there isn't the next record, if its numbers aren't so -/
theorem scan_no {ns : List ByteArray} (hf : Full ns) (q en : Nat) (hq : q < en) (hen : en ≤ ns.length) (hen2 : en ≤ 190) (ag nr : Int) (h1 : 1 ≤ ag) (h2 : ag ≤ 4611686018427387904) (h3 : 0 ≤ nr) (h4 : nr ≤ 4611686018427387904) (a n c E : Int) (hd : hdR (sb ns q) = (a, n, c, E))
    (hno : ¬ (E = 0 ∧ a = ag ∧ n = nr ∧ ∃ m : Nat, c = (m : Int) ∧ need m ≤ en - q)) : readS ns q en ag nr = none := by
  cases h : readS ns q en ag nr with
  | none => rfl
  | some b =>
    exfalso
    obtain ⟨m, k1, _, _, k2⟩ := readS_parts hf q en hq hen hen2 ag nr b h
    have hm := need_mono k1 (by omega)
    have hr := hdR_first ag nr m (Fc.crcOf (buf ns q m (nparts m))) h1 h2 h3 h4 (by omega) (crc_lt _)
    rw [← k2, hd] at hr
    cases hr
    exact hno ⟨rfl, rfl, rfl, m, rfl, k1⟩
/-- the next record stands there just if its sectors are what they should be -/
theorem scan_yes {ns : List ByteArray} (hf : Full ns) (q en : Nat) (hq : q < en) (hen : en ≤ ns.length) (hen2 : en ≤ 190) (ag nr : Int) (h1 : 1 ≤ ag) (h2 : ag ≤ 4611686018427387904) (h3 : 0 ≤ nr) (h4 : nr ≤ 4611686018427387904) (m : Nat) (hd : hdR (sb ns q) = (ag, nr, (m : Int), 0)) (hm : need m ≤ en - q) :
    readS ns q en ag nr = if PartsOk ns q m ∧ sb ns q = padL (firstL ag nr (m : Int) ((Fc.crcOf (buf ns q m (nparts m)) : Nat) : Int)) then some (buf ns q m (nparts m)) else none := by
  have hm2 := need_mono hm (by omega)
  by_cases hc : PartsOk ns q m ∧ sb ns q = padL (firstL ag nr (m : Int) ((Fc.crcOf (buf ns q m (nparts m)) : Nat) : Int))
  · rw [if_pos hc]
    have hne : q ≠ en := by omega
    have hroom : (m : Int) ≤ roomI q en := by
      unfold roomI
      rw [if_neg hne]
      unfold need at hm
      omega
    have hdd : hd4 (sb ns q) ag nr (roomI q en) = ((m : Int), ((Fc.crcOf (buf ns q m (nparts m)) : Nat) : Int), 0) := by
      rw [hc.2]
      exact hd4_first m _ ag nr _ ⟨by omega, by omega⟩ ⟨by omega, by omega⟩ hroom (by omega) (crc_lt _)
    unfold readS
    rw [if_neg hne, hdd]
    simp only [Int.toNat_natCast]
    rw [if_pos ⟨trivial, hc.2, hc.1, trivial⟩]
  · rw [if_neg hc]
    cases h : readS ns q en ag nr with
    | none => rfl
    | some b =>
      exfalso
      obtain ⟨m', k1, k2, _, k3⟩ := readS_parts hf q en hq hen hen2 ag nr b h
      have hm' := need_mono k1 (by omega)
      have hr := hdR_first ag nr m' (Fc.crcOf (buf ns q m' (nparts m'))) h1 h2 h3 h4 (by omega) (crc_lt _)
      rw [← k3, hd] at hr
      have e : m = m' := by
        have := congrArg (fun x => x.2.2.1) hr
        exact Int.ofNat.inj this
      subst e
      exact hc ⟨k2, k3⟩
theorem needR_any (n : Nat) (hn : n ≤ 100000000) (w : World) : Calls Tryd.prog 17 #[.int .i64 (n : Int)] w fun e w' => e = .returned (.int .i64 (need n : Int)) ∧ w = w' := by
  have h1 : ((n : Int) + 511 - 1).tdiv 511 = (((n + 510) / 511 : Nat) : Int) := by
    rw [Int.tdiv_eq_ediv_of_nonneg (by omega)]; omega
  have h2 : (1 : Int) + (((n + 510) / 511 : Nat) : Int) = (need n : Int) := by unfold need; push_cast; rfl
  go_enter Tryd.func17, Tryd.ntmps17
  go_wp2_with fail
  go_ret
  refine ⟨Fw.ret_int ?_, rfl⟩
  first
  | (rw [← h2, ← h1]; done)
  | (rw [← h2, ← h1]; first | rfl | (simp; done) | (congr 2; omega))
/-- a text behind an own row of bytes -/
theorem app_text {b : Nat} {w : World} {v : Value} {n : Nat} {L M : List Nat} (hown : w.ownsRow b 5 1 v n (Fw.cells L)) (hb : b ≤ w.heap.size) (hM : ∀ x ∈ M, x < 256) (hn : n + M.length ≤ 1000000) (ty : TypeId) :
    ∃ v' w', (Builtin.append_ #[34, 9] ty #[v, .string (Fw.sv M)]).run Tryd.prog w = .ok v' w' ∧ w'.ownsRow b 5 1 v' (n + M.length) (Fw.cells (L ++ M)) ∧ Below b w w' := by
  obtain ⟨i0, hi, hz0, hz1, hz2⟩ := info_parts Fw.info8
  have hs : (Fw.sv M).size = M.length := Fw.sv_size M
  obtain ⟨v', w', hr, h1, h2, _⟩ := Lib.run_append_own_string (P := Tryd.prog) w b 34 9 ty 5 i0 Tryd.underlying34 Tryd.underlying9 hi hz0 hz1 hz2 v n _ hown (Fw.sv M) (by unfold maxLen; omega) (by omega) hb
  refine ⟨v', w', hr, ?_, (Below.refl b w).grown h2 hb fun k hk => ?_⟩
  · rw [hs, Fw.strCells_is, bytesOf_sv M hM] at h1
    have e : Fw.cells (L ++ M) = Fw.cells L ++ Fw.cells M := by simp [Fw.cells]
    rw [e]
    exact h1
  · rcases hown.2 with ⟨h0, _⟩ | ⟨g', cap, cur, hv, hg, _⟩
    · rw [h0] at hk; cases hk
    · rw [hv] at hk; cases hk; exact hg
theorem own_sl {w : World} {B e z n : Nat} {v : Value} {xs : List Value} (h : w.ownsRow B e z v n xs) : ∃ a c, v = .slice a n c := by
  rcases h.2 with ⟨h0, h1⟩ | ⟨g', cap, cur, hv, _⟩
  · exact ⟨none, 0, by rw [h0, h1]⟩
  · exact ⟨_, _, hv⟩
/-- an own row of bytes, as a text -/
theorem own_conv {w : World} {B : Nat} {v : Value} {n : Nat} {L : List Nat} (h : w.ownsRow B 5 1 v n (Fw.cells L)) (hn : L.length = n) : (convert 34 9 v).run Tryd.prog w = .ok (.string (Fc.sv L)) w := by
  rcases h.2 with ⟨hv, h0⟩ | ⟨g, cap, cur, hv, hb, hg, h1, h2, h3, h4⟩
  · subst hv
    have h5 : L = [] := List.eq_nil_of_length_eq_zero (by omega)
    subst h5
    exact Fc.src_conv0 (w := w) (a0 := none) (L := []) (fun h => by simp at h) 0 (fun _ => rfl)
  · have hs : Fc.Src w (some ⟨g, 0, none⟩) L := fun hp => ⟨g, 0, rfl, fun i hi => by
      have h6 := World.ownsRow.cellAt (hv ▸ h) i (by omega)
      rw [Nat.zero_add, h6]
      simp [Fw.cells, List.getD, hi]⟩
    have h7 := Fc.src_conv0 hs cap (fun e => by cases e)
    rw [hn] at h7
    rw [hv]
    exact h7
theorem sb_sv {ns : List ByteArray} (i : Nat) : Fw.sv (sb ns i) = ns.getD i ByteArray.empty := Fw.sv_bytesOf _
end Go.Proofs.YtfhgdcljhncjmaaDoor
