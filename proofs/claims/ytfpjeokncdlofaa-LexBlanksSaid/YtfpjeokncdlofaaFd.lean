/- Contracts of one family of functions, put together: Fd. -/
import Derived.Test.YtfpjeokncdlofaaRows
import Derived.WalkKit
import Derived.ProofKit
import Derived.OpenShut
import Derived.Handy
import Derived.WalkLawsBesides
import Derived.BigQuiet
import Derived.Deep.QuietTactic
import Derived.Lib.Hide
import Derived.LoopTactic
import Derived.Laws.Externs
import Derived.Laws.Runes
import Derived.Outline
import Derived.Test.YtfpjeokncdlofaaShelf
import Derived.Laws.BytesArg
import Derived.OwnWalk
import Derived.Below
namespace Go.Proofs.Ytfpjeokncdlofaa.Fd
open Go.ChangeShapes Go.WideShapes Go.ChangeAt Go.RowKit

theorem ret_int {k : IntKind} {a b : Int} (h : a = b) : Ending.returned (.int k a) = .returned (.int k b) := by rw [h]
theorem ret_int2 {k l : IntKind} {a b c d : Int} (h : a = b) (g : c = d) : Ending.returned (.tuple #[.int k a, .int l c]) = .returned (.tuple #[.int k b, .int l d]) := by rw [h, g]
theorem ret_int3 {k l m : IntKind} {a b c d e f : Int} (h : a = b) (g : c = d) (i : e = f) : Ending.returned (.tuple #[.int k a, .int l c, .int m e]) = .returned (.tuple #[.int k b, .int l d, .int m f]) := by rw [h, g, i]

/-- An integer's wrap: 63 bits, going round. -/
def w63 (n : Int) : Int := (n + 4611686018427387904) % 9223372036854775808 - 4611686018427387904
theorem w63_lo (n : Int) : -4611686018427387904 ≤ w63 n := by unfold w63; omega
theorem w63_hi (n : Int) : w63 n ≤ 4611686018427387903 := by unfold w63; omega
theorem w63_wrap64 (n : Int) : w63 (wrap64 n) = w63 n := by unfold w63 wrap64; omega
theorem w63_add (a b : Int) : w63 (w63 a + w63 b) = w63 (a + b) := by unfold w63; omega
theorem w63_sub (a b : Int) : w63 (w63 a - w63 b) = w63 (a - b) := by unfold w63; omega
theorem w63_w63 (a : Int) : w63 (w63 a) = w63 a := by unfold w63; omega
theorem shl_shr (n : Int) : wrap64 (n * 2) / 2 = w63 n := by unfold w63 wrap64; omega
theorem shl_shr' (n : Int) : wrap64 (IntKind.u64.wrap (IntKind.u64.wrap n * 2)) / 2 = w63 n := by
  simp only [IntKind.wrap_u64]; unfold w63 wrap64; omega

theorem wrap_any (n : Int) (w : World) : Calls Try.prog 64 #[.int .i64 n] w fun e w' => e = .returned (.int .i64 (w63 n)) ∧ w = w' := by
  go_enter Try.func64, Try.ntmps64
  go_wp2
  go_ret
  exact ⟨ret_int (shl_shr n), rfl⟩
/-- Quotient and rest, cut towards nought; the least by -1 goes round. -/
def quo63 (a b : Int) : Int := w63 ((w63 a).tdiv (w63 b))
def rem63 (a b : Int) : Int := (w63 a).tmod (w63 b)
theorem tdiv_bd (x y : Int) (hx : -4611686018427387904 ≤ x) (hx' : x ≤ 4611686018427387903) : -4611686018427387904 ≤ x.tdiv y ∧ x.tdiv y ≤ 4611686018427387904 := by
  have h : (x.tdiv y).natAbs ≤ x.natAbs := by rw [Int.natAbs_tdiv]; exact Nat.div_le_self _ _
  omega
theorem tmod_bd (x y : Int) (hx : -4611686018427387904 ≤ x) (hx' : x ≤ 4611686018427387903) : -4611686018427387904 ≤ x.tmod y ∧ x.tmod y ≤ 4611686018427387904 := by
  have h : (x.tmod y).natAbs ≤ x.natAbs := by rw [Int.natAbs_tmod]; exact Nat.mod_le _ _
  omega
theorem quo_wrap (a b : Int) : w63 (wrap64 ((w63 a).tdiv (w63 b))) = quo63 a b := w63_wrap64 _

/-- digits 0 to 9 alone -/
def dgB (c : UInt8) : Bool := 48 ≤ c.toNat && c.toNat ≤ 57
def digs (l : List UInt8) : Bool := !l.isEmpty && l.all dgB

theorem get_list (s : ByteArray) (k : Nat) (h : k < s.size) : s[k] = s.data.toList[k]'(by simpa using h) := by simp; rfl
theorem digs_step (s : ByteArray) (k : Nat) (h : k < s.size) : (s.data.toList.drop k).all dgB = (dgB s[k] && (s.data.toList.drop (k + 1)).all dgB) := by
  rw [List.drop_eq_getElem_cons (by simpa using h), List.all_cons, get_list s k h]
theorem dgB_lo (c : UInt8) (h : (c.toNat : Int) < 48) : dgB c = false := by unfold dgB; simp; omega
theorem dgB_hi (c : UInt8) (h : (57 : Int) < c.toNat) : dgB c = false := by unfold dgB; simp; omega
theorem dgB_in (c : UInt8) (h : (48 : Int) ≤ c.toNat) (g : (c.toNat : Int) ≤ 57) : dgB c = true := by unfold dgB; simp; omega

theorem isDigits_any (s : ByteArray) (hs : s.size ≤ 6000) (w : World) : Calls Try.prog 51 #[.string s] w fun e w' => e = .returned (.bool (digs s.data.toList)) ∧ w = w' := by
  have HE := Lib.hid (ByteArray.toList_eq s)
  go_enter Try.func51, Try.ntmps51
  go_wp2_with fail
  go_loop [3, 6] (fun u i => ∃ k : Nat, k ≤ s.size ∧ i = .int .i64 k ∧ Hid (digs s.data.toList = (!s.data.toList.isEmpty && (s.data.toList.drop k).all dgB))) (fun _ i => s.size - (intOf i).toNat)
  case atStart => exact ⟨0, by omega, rfl, Lib.hid rfl⟩
  case round =>
    obtain ⟨k, hk, rfl, hd⟩ := hrel
    by_cases hlt : k < s.size
    · have HS := Lib.hid (digs_step s k hlt)
      by_cases c1 : (s[k].toNat : Int) < 48
      · have h0 : Hid (digs s.data.toList = false) := Lib.hid (by rw [hd.out, HS.out, dgB_lo _ c1]; simp)
        go_wp2_with fail
        go_ret
        exact ⟨by rw [h0.out]; rfl, rfl⟩
      · by_cases c2 : (57 : Int) < s[k].toNat
        · have h0 : Hid (digs s.data.toList = false) := Lib.hid (by rw [hd.out, HS.out, dgB_hi _ c2]; simp)
          go_wp2_with fail
          go_ret
          exact ⟨by rw [h0.out]; rfl, rfl⟩
        · have h0 : Hid (digs s.data.toList = (!s.data.toList.isEmpty && (s.data.toList.drop (k + 1)).all dgB)) := Lib.hid (by rw [hd.out, HS.out, dgB_in _ (by omega) (by omega)]; simp)
          go_wp2_with fail
          go_round
          case rel => exact ⟨k + 1, by omega, by go_num, h0⟩
          case measure => simp [intOf]; omega
    · have h0 : Hid (digs s.data.toList = !s.data.toList.isEmpty) := Lib.hid (by rw [hd.out, List.drop_eq_nil_of_le (by simp; omega)]; simp)
      go_wp2_with fail
      go_ret
      exact ⟨by rw [h0.out, ← HE.out]; rfl, rfl⟩

/-- a string of these bytes -/
def st (l : List UInt8) : ByteArray := ⟨l.toArray⟩
theorem st_size (l : List UInt8) : (st l).size = l.length := by simp [st, ByteArray.size]
theorem st_list (l : List UInt8) : (st l).data.toList = l := by simp [st]
theorem st_eq (s : ByteArray) : s = st s.data.toList := by apply ByteArray.ext; simp [st]
theorem st_extract (l : List UInt8) (i j : Nat) : (st l).extract i j = st ((l.take j).drop i) := by
  apply ByteArray.ext
  apply Array.toList_inj.1
  simp [st, List.extract_eq_drop_take']

theorem cutPrefix_yes (l : List UInt8) (hs : l.length ≤ 6000) (w : World) : Calls Try.prog 50 #[.string (st (45 :: l)), .string { data := #[45] }] w fun e w' => e = .returned (.tuple #[.string (st l), .bool true]) ∧ w = w' := by
  have h1 : ((st (45 :: l)).extract 0 1).toList = [45] := by rw [st_extract, ByteArray.toList_eq, st_list]; simp
  have h2 : (st (45 :: l)).extract 1 (l.length + 1) = st l := by rw [st_extract]; simp
  have h3 : (st (45 :: l)).size = l.length + 1 := by rw [st_size]; rfl
  go_enter Try.func50, Try.ntmps50
  go_wp2
  go_ret2
  exact ⟨rfl, rfl⟩
theorem cutPrefix_no (l : List UInt8) (hs : l.length ≤ 6000) (hl : ∀ t, l ≠ 45 :: t) (w : World) : Calls Try.prog 50 #[.string (st l), .string { data := #[45] }] w fun e w' => e = .returned (.tuple #[.string (st l), .bool false]) ∧ w = w' := by
  have h3 : (st l).size = l.length := st_size l
  by_cases h0 : l.length = 0
  · have h0' : ¬ (1 : Int) ≤ (l.length : Int) := by omega
    go_enter Try.func50, Try.ntmps50
    go_wp2
    go_ret2
    exact ⟨rfl, rfl⟩
  · have h1 : (((st l).extract 0 1).toList == [45]) = false := by
      rw [st_extract, ByteArray.toList_eq, st_list]
      cases l with
      | nil => exact absurd rfl h0
      | cons c t =>
        have : c ≠ 45 := fun e => hl t (by rw [e])
        simpa using this
    have h0' : (1 : Int) ≤ (l.length : Int) := by omega
    clear hl
    go_enter Try.func50, Try.ntmps50
    go_wp2
    go_ret2
    exact ⟨rfl, rfl⟩

open Go.ChangeShapes Go.WideShapes Go.ChangeAt Go.RowKit
set_option linter.unusedVariables false

/-- what digits tell -/
def val (l : List UInt8) : Nat := l.foldl (fun n c => n * 10 + (c.toNat - 48)) 0
theorem val_snoc (l : List UInt8) (c : UInt8) : val (l ++ [c]) = val l * 10 + (c.toNat - 48) := by unfold val; rw [List.foldl_append]; rfl
theorem fold_ge : ∀ (b : List UInt8) (n : Nat), n ≤ b.foldl (fun n c => n * 10 + (c.toNat - 48)) n
  | [], n => Nat.le_refl _
  | c :: t, n => Nat.le_trans (by omega) (fold_ge t (n * 10 + (c.toNat - 48)))
theorem val_ge (a b : List UInt8) : val a ≤ val (a ++ b) := by unfold val; rw [List.foldl_append]; exact fold_ge b _
theorem val_take_le (l : List UInt8) (k : Nat) : val (l.take k) ≤ val l := by
  have := val_ge (l.take k) (l.drop k)
  rwa [List.take_append_drop] at this
theorem val_step (l : List UInt8) (k : Nat) (h : k < l.length) : val (l.take (k + 1)) = val (l.take k) * 10 + (l[k].toNat - 48) := by
  rw [List.take_add_one, List.getElem?_eq_getElem h, Option.toList_some, val_snoc]
/-- what is read: the number, the error -/
def outD (neg : Bool) (ds : List UInt8) : Int × Int :=
  if digs ds = false then (0, 2) else if 4611686018427387904 < val ds ∨ (val ds = 4611686018427387904 ∧ neg = false) then (0, 4) else (if neg then -(val ds : Int) else (val ds : Int), 0)
theorem digs_all {ds : List UInt8} (h : digs ds = true) (k : Nat) (hk : k < ds.length) : 48 ≤ ds[k].toNat ∧ ds[k].toNat ≤ 57 := by
  unfold digs at h
  simp only [Bool.and_eq_true] at h
  have := List.all_eq_true.1 h.2 ds[k] (List.getElem_mem hk)
  unfold dgB at this
  simp at this
  exact this
theorem tdiv_low (c : Nat) (h1 : 48 ≤ c) (h2 : c ≤ 57) : (-4611686018427387904 + ((c : Int) - 48)).tdiv 10 = -((4611686018427387904 - ((c : Int) - 48)) / 10) := by
  have e : (-4611686018427387904 + ((c : Int) - 48)) = -(4611686018427387904 - ((c : Int) - 48)) := by omega
  rw [e, Int.neg_tdiv, Int.tdiv_eq_ediv_of_nonneg (by omega)]
set_option maxRecDepth 20000 in
set_option maxHeartbeats 2000000 in
theorem read_core (s0 s : ByteArray) (neg : Bool) (hs : s.size ≤ 6000) (w : World)
    (HC : Hid (Calls Try.prog 50 #[.string s0, .string { data := #[45] }] w fun e w' => e = .returned (.tuple #[.string s, .bool neg]) ∧ w = w')) :
    Calls Try.prog 41 #[.string s0] w fun e w' => e = .returned (.tuple #[.int .i64 (outD neg s.data.toList).1, .int .i64 (outD neg s.data.toList).2]) ∧ w = w' := by
  have HD := Lib.hid (isDigits_any s hs w)
  cases hd : digs s.data.toList
  · rw [hd] at HD
    have ho : outD neg s.data.toList = (0, 2) := if_pos hd
    rw [ho]
    clear ho hd
    go_enter Try.func41, Try.ntmps41
    go_wp2_with fail
    refine HC.out.mono ?_
    rintro e w' ⟨rfl, rfl⟩
    go_wp2_with fail
    refine HD.out.mono ?_
    rintro e w' ⟨rfl, rfl⟩
    go_wp2_with fail
    go_ret2
    exact ⟨rfl, rfl⟩
  · rw [hd] at HD
    have HA : Hid (∀ k (hk : k < s.size), 48 ≤ (s[k]).toNat ∧ (s[k]).toNat ≤ 57) := Lib.hid fun k hk => by
      have := digs_all hd k (by simpa using hk)
      rw [get_list s k hk]; exact this
    have HV : Hid (∀ k (hk : k < s.size), val (s.data.toList.take (k + 1)) = val (s.data.toList.take k) * 10 + ((s[k]).toNat - 48)) := Lib.hid fun k hk => by
      rw [val_step _ k (by simpa using hk), get_list s k hk]
    have HO : Hid (True → outD neg s.data.toList = if 4611686018427387904 < val s.data.toList ∨ (val s.data.toList = 4611686018427387904 ∧ neg = false) then (0, 4) else (if neg then -(val s.data.toList : Int) else (val s.data.toList : Int), 0)) := Lib.hid fun _ => if_neg (by rw [hd]; decide)
    clear hd
    go_enter Try.func41, Try.ntmps41
    go_wp2_with fail
    refine HC.out.mono ?_
    rintro e w' ⟨rfl, rfl⟩
    go_wp2_with fail
    refine HD.out.mono ?_
    rintro e w' ⟨rfl, rfl⟩
    go_wp2_with fail
    go_loop [6, 19] (fun n i => ∃ k m : Nat, i = .int .i64 (k : Int) ∧ n = .int .i64 (-(m : Int)) ∧ k ≤ s.size ∧ m ≤ 4611686018427387904 ∧ Hid (m = val (s.data.toList.take k))) (fun _ i => s.size - (intOf i).toNat)
    case atStart => exact ⟨0, 0, rfl, rfl, by omega, by omega, Lib.hid rfl⟩
    case round =>
      obtain ⟨k, m, rfl, rfl, hks, hm, hv⟩ := hrel
      by_cases hk : k < s.size
      · have hc := HA.out k hk
        have HS := Lib.hid (HV.out k hk)
        obtain ⟨c, hcc⟩ : ∃ c, (s[k]).toNat = c := ⟨_, rfl⟩
        rw [hcc] at hc
        obtain ⟨hc1, hc2⟩ := hc
        have hc1' : (48 : Int) ≤ (c : Int) := by omega
        have hc2' : (c : Int) ≤ 57 := by omega
        have hq := tdiv_low c hc1 hc2
        by_cases hbig : 4611686018427387904 < m * 10 + (c - 48)
        · have hT : -(m : Int) < (-4611686018427387904 + ((c : Int) - 48)).tdiv 10 := by rw [hq]; omega
          have HR : Hid (True → outD neg s.data.toList = (0, 4)) := Lib.hid fun _ => by
            rw [HO.out trivial]
            refine if_pos (.inl ?_)
            have h1 := HS.out
            rw [← hv.out, hcc] at h1
            have h2 := val_take_le s.data.toList (k + 1)
            omega
          clear hq
          go_wp2_with fail
          go_ret2
          exact ⟨by rw [HR.out trivial]; rfl, rfl⟩
        · have hT : (-4611686018427387904 + ((c : Int) - 48)).tdiv 10 ≤ -(m : Int) := by rw [hq]; omega
          have hT2 : ¬ -(m : Int) < (-4611686018427387904 + ((c : Int) - 48)).tdiv 10 := by omega
          have HN : Hid (True → -(m : Int) * 10 - ((c : Int) - 48) = -((m * 10 + (c - 48) : Nat) : Int)) := Lib.hid fun _ => by omega
          have HM : Hid (m * 10 + (c - 48) = val (s.data.toList.take (k + 1))) := Lib.hid (by rw [HS.out, ← hv.out, hcc])
          clear hq hv HS
          go_wp2_with fail
          go_round
          case rel => exact ⟨k + 1, m * 10 + (c - 48), by go_num, by rw [HN.out trivial], by omega, by omega, HM⟩
          case measure => simp [intOf]; omega
      · obtain rfl : k = s.size := by omega
        have HE : Hid (True → m = val s.data.toList) := Lib.hid fun _ => by
          have := hv.out
          rwa [List.take_of_length_le (by simp)] at this
        clear hv
        cases neg
        · by_cases hm2 : m = 4611686018427387904
          · subst hm2
            have HR : Hid (True → outD false s.data.toList = (0, 4)) := Lib.hid fun _ => by rw [HO.out trivial, if_pos (.inr ⟨(HE.out trivial).symm, rfl⟩)]
            go_wp2_with fail
            go_ret2
            exact ⟨by rw [HR.out trivial]; rfl, rfl⟩
          · have hne : (-(m : Int) == -4611686018427387904) = false := by simp; omega
            have HR : Hid (True → outD false s.data.toList = ((m : Int), 0)) := Lib.hid fun _ => by
              rw [HO.out trivial, ← HE.out trivial, if_neg (by omega)]; rfl
            go_wp2_with fail
            go_ret2
            exact ⟨by rw [HR.out trivial]; rfl, rfl⟩
        · have HR : Hid (True → outD true s.data.toList = (-(m : Int), 0)) := Lib.hid fun _ => by
            rw [HO.out trivial, ← HE.out trivial, if_neg (by rintro (h | ⟨_, h⟩); omega; cases h)]; rfl
          go_wp2_with fail
          go_ret2
          exact ⟨by rw [HR.out trivial]; rfl, rfl⟩

set_option linter.unusedVariables false

/-- what stands at the loop's head: all digits so far; the number, or that it is too big -/
def Seen (ds : List UInt8) (k n : Nat) (big : Bool) : Prop := (∀ i (h : i < ds.length), i < k → dgB ds[i] = true) ∧ ((big = false ∧ n = val (ds.take k) ∧ n ≤ 4611686018427387904) ∨ (big = true ∧ 4611686018427387904 < val (ds.take k)))
theorem seen_bad {ds : List UInt8} {k n : Nat} {big : Bool} (hk : k < ds.length) (hc : dgB ds[k] = false) (neg : Bool) : outD neg ds = (0, 2) := by
  have : digs ds = false := by
    unfold digs
    have h2 : ds.all dgB = false := by
      rw [List.all_eq_false]
      exact ⟨ds[k], List.getElem_mem hk, by rw [hc]; decide⟩
    rw [h2, Bool.and_false]
  exact if_pos this
theorem seen_big {ds : List UInt8} {k n : Nat} {big : Bool} (h : Seen ds k n big) (hk : k < ds.length) (hc : dgB ds[k] = true) (hb : big = true ∨ 461168601842738790 < n) : Seen ds (k + 1) n true := by
  refine ⟨fun i hi hik => ?_, .inr ⟨rfl, ?_⟩⟩
  · by_cases e : i = k
    · subst e; exact hc
    · exact h.1 i hi (by omega)
  · rw [val_step ds k hk]
    rcases h.2 with ⟨hb1, hn, hle⟩ | ⟨_, hv⟩
    · rcases hb with hb | hb
      · rw [hb1] at hb; cases hb
      · omega
    · omega
theorem seen_next {ds : List UInt8} {k n : Nat} (h : Seen ds k n false) (hk : k < ds.length) (hc : dgB ds[k] = true) (hb : ¬ 461168601842738790 < n) : Seen ds (k + 1) (n * 10 + (ds[k].toNat - 48)) (decide (4611686018427387904 < n * 10 + (ds[k].toNat - 48))) := by
  refine ⟨fun i hi hik => ?_, ?_⟩
  · by_cases e : i = k
    · subst e; exact hc
    · exact h.1 i hi (by omega)
  · have hn : n = val (ds.take k) := by
      rcases h.2 with ⟨_, hn, _⟩ | ⟨hb, _⟩
      · exact hn
      · cases hb
    rw [val_step ds k hk, ← hn]
    by_cases hd : 4611686018427387904 < n * 10 + (ds[k].toNat - 48)
    · exact .inr ⟨by simp [hd], hd⟩
    · exact .inl ⟨by simp [hd], rfl, by omega⟩
theorem seen_digs {ds : List UInt8} {n : Nat} {big : Bool} (h : Seen ds ds.length n big) (hp : 0 < ds.length) : digs ds = true := by
  unfold digs
  have h2 : ds.all dgB = true := List.all_eq_true.2 fun c hc => by
    obtain ⟨i, hi, rfl⟩ := List.getElem_of_mem hc
    exact h.1 i hi hi
  rw [h2, Bool.and_true]
  cases ds with
  | nil => simp at hp
  | cons c t => rfl
theorem seen_end {ds : List UInt8} {n : Nat} {big : Bool} (h : Seen ds ds.length n big) (hp : 0 < ds.length) (neg : Bool) : (big = true → outD neg ds = (0, 4)) ∧ (big = false → n ≤ 4611686018427387904 ∧ ((n = 4611686018427387904 ∧ neg = false → outD neg ds = (0, 4)) ∧ (¬ (n = 4611686018427387904 ∧ neg = false) → outD neg ds = (if neg then -(n : Int) else (n : Int), 0)))) := by
  have ho : outD neg ds = if 4611686018427387904 < val ds ∨ (val ds = 4611686018427387904 ∧ neg = false) then (0, 4) else (if neg then -(val ds : Int) else (val ds : Int), 0) := if_neg (by rw [seen_digs h hp]; decide)
  have h2 := h.2
  rw [List.take_length] at h2
  refine ⟨fun hb => ?_, fun hb => ?_⟩
  · rcases h2 with ⟨h3, _⟩ | ⟨_, h3⟩
    · rw [hb] at h3; cases h3
    · rw [ho, if_pos (.inl h3)]
  · rcases h2 with ⟨_, rfl, hle⟩ | ⟨h3, _⟩
    · refine ⟨hle, fun h4 => by rw [ho, if_pos (.inr h4)], fun h4 => by rw [ho, if_neg (by rintro (h5 | h5); omega; exact h4 h5)]⟩
    · rw [hb] at h3; cases h3
theorem dg_of (c : UInt8) : (dgB c = true ↔ 48 ≤ c.toNat ∧ c.toNat ≤ 57) := by unfold dgB; simp
set_option maxRecDepth 20000 in
set_option maxHeartbeats 4000000 in
theorem refRead_neg (s : ByteArray) (ds : List UInt8) (hs : s.size = ds.length + 1) (hp : 0 < ds.length) (hl : s.size ≤ 6000) (h0s : 0 < s.size) (hb0 : ((s[0].toNat : Int) == 45) = true) (HD : Hid (∀ j (h : j < s.size) (h2 : j - 1 < ds.length), 1 ≤ j → s[j] = ds[j - 1])) (w : World) :
    Calls Try.prog 22 #[.string s] w fun e w' => e = .returned (.tuple #[.int .i64 (outD true ds).1, .int .i64 (outD true ds).2]) ∧ w = w' := by
  have Hs : Hid (True → s.size = ds.length + 1) := Lib.hid fun _ => hs
  have Hp := Lib.hid hp
  have hz : ((1 : Int) == (s.size : Int)) = false := by simp; omega
  have hgt : decide ((0 : Int) < (s.size : Int)) = true := decide_eq_true (by omega)
  have hz2 : 1 < s.size := by omega
  clear hs hp
  go_enter Try.func22, Try.ntmps22
  go_wp2_with fail
  go_loop [5, 6, 7] (fun i n b => ∃ (j m : Nat) (big : Bool), i = .int .i64 (j : Int) ∧ n = .int .u64 (m : Int) ∧ b = .bool big ∧ 1 ≤ j ∧ j ≤ s.size ∧ m ≤ 4611686018427387913 ∧ Hid (Seen ds (j - 1) m big)) (fun i _ _ => s.size - (intOf i).toNat)
  case atStart => exact ⟨1, 0, false, rfl, rfl, rfl, by omega, by omega, by omega, Lib.hid ⟨fun i _ h => absurd h (by omega), .inl ⟨rfl, rfl, by omega⟩⟩⟩
  case round =>
    obtain ⟨j, m, big, rfl, rfl, rfl, hj1, hj2, hm, hS⟩ := hrel
    by_cases hj : j < s.size
    · have hjd : Hid (j - 1 < ds.length) := Lib.hid (by have := Hs.out trivial; omega)
      have hcd := HD.out j hj hjd.out hj1
      obtain ⟨c, hcc⟩ : ∃ c, (s[j]).toNat = c := ⟨_, rfl⟩
      have hcd' : Hid ((ds[j - 1]'hjd.out).toNat = c) := Lib.hid (by rw [← hcd]; exact hcc)
      clear hcd
      by_cases hd : 48 ≤ c ∧ c ≤ 57
      · have hdg : Hid (dgB (ds[j - 1]'hjd.out) = true) := Lib.hid ((dg_of _).2 (by rw [hcd'.out]; exact hd))
        obtain ⟨hd1, hd2⟩ := hd
        have e1 : decide ((c : Int) < 48) = false := decide_eq_false (by omega)
        have e2 : decide ((57 : Int) < (c : Int)) = false := decide_eq_false (by omega)
        have d1 : (48 : Int) ≤ (c : Int) := by omega
        have d2 : (c : Int) ≤ 57 := by omega
        by_cases hb : big = true ∨ 461168601842738790 < m
        · have HN := Lib.hid (seen_big hS.out hjd.out hdg.out hb)
          rcases hb with rfl | hb
          · clear hS
            go_wp2_with fail
            go_round
            case rel => exact ⟨j + 1, m, true, by go_num, rfl, rfl, by omega, by omega, hm, Lib.hid (by have := HN.out; rwa [show j - 1 + 1 = j + 1 - 1 by omega] at this)⟩
            case measure => simp [intOf]; omega
          · have e3 : decide ((461168601842738790 : Int) < (m : Int)) = true := decide_eq_true (by omega)
            clear hS
            cases big <;>
            · go_wp2_with fail
              go_round
              case rel => exact ⟨j + 1, m, true, by go_num, rfl, rfl, by omega, by omega, hm, Lib.hid (by have := HN.out; rwa [show j - 1 + 1 = j + 1 - 1 by omega] at this)⟩
              case measure => simp [intOf]; omega
        · obtain ⟨hb1, hb2⟩ : big = false ∧ ¬ 461168601842738790 < m := ⟨by cases big with | false => rfl | true => exact absurd (.inl rfl) hb, fun h => hb (.inr h)⟩
          subst hb1
          have HN := Lib.hid (seen_next hS.out hjd.out hdg.out hb2)
          have e3 : decide ((461168601842738790 : Int) < (m : Int)) = false := decide_eq_false (by omega)
          have e4 : (m : Int) ≤ 461168601842738790 := by omega
          have HV : Hid (True → (m : Int) * 10 + ((c : Int) - 48) = ((m * 10 + ((ds[j - 1]'hjd.out).toNat - 48) : Nat) : Int)) := Lib.hid fun _ => by rw [hcd'.out]; omega
          have HC : Hid (m * 10 + ((ds[j - 1]'hjd.out).toNat - 48) ≤ 4611686018427387913) := Lib.hid (by rw [hcd'.out]; omega)
          clear hS hb
          go_wp2_with fail
          go_round
          case rel =>
            rw [HV.out trivial]
            refine ⟨j + 1, _, _, by go_num, rfl, ?_, by omega, by omega, HC.out, Lib.hid (by have := HN.out; rwa [show j - 1 + 1 = j + 1 - 1 by omega] at this)⟩
            rw [Value.bool.injEq, decide_eq_decide]
            omega
          case measure => simp [intOf]; omega
      · have HR : Hid (True → outD true ds = (0, 2)) := Lib.hid fun _ => seen_bad (n := m) (big := big) hjd.out (by
          cases h : dgB (ds[j - 1]'hjd.out) with
          | false => rfl
          | true => exact absurd ((dg_of _).1 h) (by rw [hcd'.out]; exact hd)) true
        by_cases hlo : c < 48
        · have e1 : decide ((c : Int) < 48) = true := decide_eq_true (by omega)
          clear hS hd
          go_wp2_with fail
          go_ret2
          exact ⟨by rw [HR.out trivial]; rfl, rfl⟩
        · have e1 : decide ((c : Int) < 48) = false := decide_eq_false (by omega)
          have e2 : decide ((57 : Int) < (c : Int)) = true := decide_eq_true (by omega)
          clear hS hd
          go_wp2_with fail
          go_ret2
          exact ⟨by rw [HR.out trivial]; rfl, rfl⟩
    · obtain rfl : j = s.size := by omega
      have hO := seen_end (n := m) (big := big) (by have := hS.out; rwa [show s.size - 1 = ds.length by have := Hs.out trivial; omega] at this) Hp.out true
      clear hS
      cases big
      · have hle := (hO.2 rfl).1
        have HR : Hid (True → outD true ds = (-(m : Int), 0)) := Lib.hid fun _ => (hO.2 rfl).2.2 (fun h => by cases h.2)
        clear hO
        by_cases hm : m = 4611686018427387904
        · subst hm
          go_wp2_with fail
          go_ret2
          exact ⟨by rw [HR.out trivial]; rfl, rfl⟩
        · have hm2 : ((m : Int) == 4611686018427387904) = false := by simp; omega
          go_wp2_with fail
          go_ret2
          exact ⟨by rw [HR.out trivial]; rfl, rfl⟩
      · have HR : Hid (True → outD true ds = (0, 4)) := Lib.hid fun _ => hO.1 rfl
        clear hO
        go_wp2_with fail
        go_ret2
        exact ⟨by rw [HR.out trivial]; rfl, rfl⟩
set_option maxRecDepth 20000 in
set_option maxHeartbeats 4000000 in
theorem refRead_pos (s : ByteArray) (ds : List UInt8) (hs : s.size = ds.length) (hp : 0 < ds.length) (hl : s.size ≤ 6000) (h0s : 0 < s.size) (hb0 : ((s[0].toNat : Int) == 45) = false) (HD : Hid (∀ j (h : j < s.size) (h2 : j < ds.length), 0 ≤ j → s[j] = ds[j])) (w : World) :
    Calls Try.prog 22 #[.string s] w fun e w' => e = .returned (.tuple #[.int .i64 (outD false ds).1, .int .i64 (outD false ds).2]) ∧ w = w' := by
  have Hs : Hid (True → s.size = ds.length) := Lib.hid fun _ => hs
  have Hp := Lib.hid hp
  have hz : ((0 : Int) == (s.size : Int)) = false := by simp; omega
  have hgt : decide ((0 : Int) < (s.size : Int)) = true := decide_eq_true (by omega)
  have hz2 : 0 < s.size := by omega
  clear hs hp
  go_enter Try.func22, Try.ntmps22
  go_wp2_with fail
  go_loop [5, 6, 7] (fun i n b => ∃ (j m : Nat) (big : Bool), i = .int .i64 (j : Int) ∧ n = .int .u64 (m : Int) ∧ b = .bool big ∧ 0 ≤ j ∧ j ≤ s.size ∧ m ≤ 4611686018427387913 ∧ Hid (Seen ds (j) m big)) (fun i _ _ => s.size - (intOf i).toNat)
  case atStart => exact ⟨0, 0, false, rfl, rfl, rfl, by omega, by omega, by omega, Lib.hid ⟨fun i _ h => absurd h (by omega), .inl ⟨rfl, rfl, by omega⟩⟩⟩
  case round =>
    obtain ⟨j, m, big, rfl, rfl, rfl, hj1, hj2, hm, hS⟩ := hrel
    by_cases hj : j < s.size
    · have hjd : Hid (j < ds.length) := Lib.hid (by have := Hs.out trivial; omega)
      have hcd := HD.out j hj hjd.out hj1
      obtain ⟨c, hcc⟩ : ∃ c, (s[j]).toNat = c := ⟨_, rfl⟩
      have hcd' : Hid ((ds[j]'hjd.out).toNat = c) := Lib.hid (by rw [← hcd]; exact hcc)
      clear hcd
      by_cases hd : 48 ≤ c ∧ c ≤ 57
      · have hdg : Hid (dgB (ds[j]'hjd.out) = true) := Lib.hid ((dg_of _).2 (by rw [hcd'.out]; exact hd))
        obtain ⟨hd1, hd2⟩ := hd
        have e1 : decide ((c : Int) < 48) = false := decide_eq_false (by omega)
        have e2 : decide ((57 : Int) < (c : Int)) = false := decide_eq_false (by omega)
        have d1 : (48 : Int) ≤ (c : Int) := by omega
        have d2 : (c : Int) ≤ 57 := by omega
        by_cases hb : big = true ∨ 461168601842738790 < m
        · have HN := Lib.hid (seen_big hS.out hjd.out hdg.out hb)
          rcases hb with rfl | hb
          · clear hS
            go_wp2_with fail
            go_round
            case rel => exact ⟨j + 1, m, true, by go_num, rfl, rfl, by omega, by omega, hm, Lib.hid (by have := HN.out; rwa [show j + 1 = j + 1 by omega] at this)⟩
            case measure => simp [intOf]; omega
          · have e3 : decide ((461168601842738790 : Int) < (m : Int)) = true := decide_eq_true (by omega)
            clear hS
            cases big <;>
            · go_wp2_with fail
              go_round
              case rel => exact ⟨j + 1, m, true, by go_num, rfl, rfl, by omega, by omega, hm, Lib.hid (by have := HN.out; rwa [show j + 1 = j + 1 by omega] at this)⟩
              case measure => simp [intOf]; omega
        · obtain ⟨hb1, hb2⟩ : big = false ∧ ¬ 461168601842738790 < m := ⟨by cases big with | false => rfl | true => exact absurd (.inl rfl) hb, fun h => hb (.inr h)⟩
          subst hb1
          have HN := Lib.hid (seen_next hS.out hjd.out hdg.out hb2)
          have e3 : decide ((461168601842738790 : Int) < (m : Int)) = false := decide_eq_false (by omega)
          have e4 : (m : Int) ≤ 461168601842738790 := by omega
          have HV : Hid (True → (m : Int) * 10 + ((c : Int) - 48) = ((m * 10 + ((ds[j]'hjd.out).toNat - 48) : Nat) : Int)) := Lib.hid fun _ => by rw [hcd'.out]; omega
          have HC : Hid (m * 10 + ((ds[j]'hjd.out).toNat - 48) ≤ 4611686018427387913) := Lib.hid (by rw [hcd'.out]; omega)
          clear hS hb
          go_wp2_with fail
          go_round
          case rel =>
            rw [HV.out trivial]
            refine ⟨j + 1, _, _, by go_num, rfl, ?_, by omega, by omega, HC.out, Lib.hid (by have := HN.out; rwa [show j + 1 = j + 1 by omega] at this)⟩
            rw [Value.bool.injEq, decide_eq_decide]
            omega
          case measure => simp [intOf]; omega
      · have HR : Hid (True → outD false ds = (0, 2)) := Lib.hid fun _ => seen_bad (n := m) (big := big) hjd.out (by
          cases h : dgB (ds[j]'hjd.out) with
          | false => rfl
          | true => exact absurd ((dg_of _).1 h) (by rw [hcd'.out]; exact hd)) false
        by_cases hlo : c < 48
        · have e1 : decide ((c : Int) < 48) = true := decide_eq_true (by omega)
          clear hS hd
          go_wp2_with fail
          go_ret2
          exact ⟨by rw [HR.out trivial]; rfl, rfl⟩
        · have e1 : decide ((c : Int) < 48) = false := decide_eq_false (by omega)
          have e2 : decide ((57 : Int) < (c : Int)) = true := decide_eq_true (by omega)
          clear hS hd
          go_wp2_with fail
          go_ret2
          exact ⟨by rw [HR.out trivial]; rfl, rfl⟩
    · obtain rfl : j = s.size := by omega
      have hO := seen_end (n := m) (big := big) (by have := hS.out; rwa [show s.size = ds.length by have := Hs.out trivial; omega] at this) Hp.out false
      clear hS
      cases big
      · have hle := (hO.2 rfl).1
        by_cases hm : m = 4611686018427387904
        · subst hm
          have HR : Hid (True → outD false ds = (0, 4)) := Lib.hid fun _ => (hO.2 rfl).2.1 ⟨rfl, rfl⟩
          clear hO
          go_wp2_with fail
          go_ret2
          exact ⟨by rw [HR.out trivial]; rfl, rfl⟩
        · have hm2 : ((m : Int) == 4611686018427387904) = false := by simp; omega
          have HR : Hid (True → outD false ds = ((m : Int), 0)) := Lib.hid fun _ => (hO.2 rfl).2.2 (fun h => hm h.1)
          clear hO
          go_wp2_with fail
          go_ret2
          exact ⟨by rw [HR.out trivial]; rfl, rfl⟩
      · have HR : Hid (True → outD false ds = (0, 4)) := Lib.hid fun _ => hO.1 rfl
        clear hO
        go_wp2_with fail
        go_ret2
        exact ⟨by rw [HR.out trivial]; rfl, rfl⟩

set_option linter.unusedVariables false

def out (l : List UInt8) : Int × Int := match l with
  | 45 :: t => outD true t
  | l => outD false l
theorem out_neg (t : List UInt8) : out (45 :: t) = outD true t := rfl
theorem out_pos (l : List UInt8) (h : ∀ t, l ≠ 45 :: t) : out l = outD false l := by
  unfold out
  split
  · rename_i t; exact absurd rfl (h t)
  · rfl
theorem read_any (l : List UInt8) (hl : l.length ≤ 6000) (w : World) : Calls Try.prog 41 #[.string (st l)] w fun e w' => e = .returned (.tuple #[.int .i64 (out l).1, .int .i64 (out l).2]) ∧ w = w' := by
  by_cases h : ∃ t, l = 45 :: t
  · obtain ⟨t, rfl⟩ := h
    have ht : t.length ≤ 6000 := by simp at hl; omega
    have := read_core (st (45 :: t)) (st t) true (by rw [st_size]; exact ht) w (Lib.hid (cutPrefix_yes t ht w))
    rw [st_list] at this
    exact this
  · have h' : ∀ t, l ≠ 45 :: t := fun t e => h ⟨t, e⟩
    have := read_core (st l) (st l) false (by rw [st_size]; exact hl) w (Lib.hid (cutPrefix_no l hl h' w))
    rw [st_list] at this
    rw [out_pos l h']
    exact this
theorem digs_nil (neg : Bool) : outD neg [] = (0, 2) := rfl
set_option maxRecDepth 20000 in
theorem refRead_empty (s : ByteArray) (hs : s.size = 0) (w : World) : Calls Try.prog 22 #[.string s] w fun e w' => e = .returned (.tuple #[.int .i64 0, .int .i64 2]) ∧ w = w' := by
  go_enter Try.func22, Try.ntmps22
  go_wp2
  go_ret2
  exact ⟨rfl, rfl⟩
set_option maxRecDepth 20000 in
theorem refRead_minus (s : ByteArray) (hs : s.size = 1) (h0 : 0 < s.size) (hb0 : ((s[0].toNat : Int) == 45) = true) (w : World) : Calls Try.prog 22 #[.string s] w fun e w' => e = .returned (.tuple #[.int .i64 0, .int .i64 2]) ∧ w = w' := by
  have hgt : decide ((0 : Int) < (s.size : Int)) = true := decide_eq_true (by omega)
  have hz : ((1 : Int) == (s.size : Int)) = true := by simp; omega
  go_enter Try.func22, Try.ntmps22
  go_wp2
  go_ret2
  exact ⟨rfl, rfl⟩
theorem st_at (l : List UInt8) (j : Nat) (h : j < (st l).size) : (st l)[j] = l[j]'(by rw [st_size] at h; exact h) := by
  rw [get_list (st l) j h]
  simp only [st_list]
theorem refRead_any (l : List UInt8) (hl : l.length ≤ 6000) (w : World) : Calls Try.prog 22 #[.string (st l)] w fun e w' => e = .returned (.tuple #[.int .i64 (out l).1, .int .i64 (out l).2]) ∧ w = w' := by
  rcases l with _ | ⟨c, t⟩
  · exact refRead_empty (st []) rfl w
  · have h0 : 0 < (st (c :: t)).size := by rw [st_size]; simp
    have hc0 : (st (c :: t))[0] = c := by rw [st_at]; rfl
    by_cases hc : c = 45
    · subst hc
      have hb0 : (((st (45 :: t))[0].toNat : Int) == 45) = true := by rw [hc0]; rfl
      rcases Nat.eq_zero_or_pos t.length with ht | ht
      · obtain rfl : t = [] := List.length_eq_zero_iff.1 ht
        exact refRead_minus _ rfl h0 hb0 w
      · refine refRead_neg (st (45 :: t)) t (by rw [st_size]; rfl) ht (by rw [st_size]; exact hl) h0 hb0 (Lib.hid fun j h h2 h1 => ?_) w
        rw [st_at]
        obtain ⟨i, rfl⟩ : ∃ i, j = i + 1 := ⟨j - 1, by omega⟩
        rfl
    · have hb0 : (((st (c :: t))[0].toNat : Int) == 45) = false := by
        rw [hc0]
        simp only [beq_eq_false_iff_ne, ne_eq]
        intro e
        exact hc (UInt8.toNat_inj.1 (by show c.toNat = 45; omega))
      rw [out_pos _ (fun u e => hc (by cases e; rfl))]
      refine refRead_pos (st (c :: t)) (c :: t) (by rw [st_size]) (by simp) (by rw [st_size]; exact hl) h0 hb0 (Lib.hid fun j h h2 h1 => ?_) w
      rw [st_at]
theorem ofNat_dig (d : Nat) (h : d < 10) : (UInt8.ofNat (48 + d)).toNat = 48 + d := by
  rw [UInt8.toNat_ofNat']; omega
end Go.Proofs.Ytfpjeokncdlofaa.Fd
