/- Contracts of one family of functions, put together: Fd. -/
import Derived.Test.YtpacjcgpeomnaaaDoorRows
import Derived.WalkKit
import Derived.ProofKit
import Derived.OpenShut
import Derived.Handy
import Derived.WalkLawsBesides
import Derived.BigQuiet
import Derived.Deep.QuietTactic
import Derived.Lib.Hide
import Derived.LoopTactic
import Derived.Laws.Externs
import Derived.Laws.Runes
import Derived.Outline
import Derived.Test.YtpacjcgpeomnaaaDoorShelf
import Derived.Laws.BytesArg
import Derived.OwnWalk
import Derived.Below
namespace Go.Proofs.YtpacjcgpeomnaaaDoor.Fd
open Go.ChangeShapes Go.WideShapes Go.ChangeAt Go.RowKit

theorem ret_int {k : IntKind} {a b : Int} (h : a = b) : Ending.returned (.int k a) = .returned (.int k b) := by rw [h]
theorem ret_int2 {k l : IntKind} {a b c d : Int} (h : a = b) (g : c = d) : Ending.returned (.tuple #[.int k a, .int l c]) = .returned (.tuple #[.int k b, .int l d]) := by rw [h, g]
theorem ret_int3 {k l m : IntKind} {a b c d e f : Int} (h : a = b) (g : c = d) (i : e = f) : Ending.returned (.tuple #[.int k a, .int l c, .int m e]) = .returned (.tuple #[.int k b, .int l d, .int m f]) := by rw [h, g, i]

/-- An integer's wrap: 63 bits, going round. -/
def w63 (n : Int) : Int := (n + 4611686018427387904) % 9223372036854775808 - 4611686018427387904
theorem w63_lo (n : Int) : -4611686018427387904 ≤ w63 n := by unfold w63; omega
theorem w63_hi (n : Int) : w63 n ≤ 4611686018427387903 := by unfold w63; omega
theorem w63_wrap64 (n : Int) : w63 (wrap64 n) = w63 n := by unfold w63 wrap64; omega
theorem w63_add (a b : Int) : w63 (w63 a + w63 b) = w63 (a + b) := by unfold w63; omega
theorem w63_sub (a b : Int) : w63 (w63 a - w63 b) = w63 (a - b) := by unfold w63; omega
theorem w63_w63 (a : Int) : w63 (w63 a) = w63 a := by unfold w63; omega
theorem shl_shr (n : Int) : wrap64 (n * 2) / 2 = w63 n := by unfold w63 wrap64; omega
theorem shl_shr' (n : Int) : wrap64 (IntKind.u64.wrap (IntKind.u64.wrap n * 2)) / 2 = w63 n := by
  simp only [IntKind.wrap_u64]; unfold w63 wrap64; omega

theorem wrap_any (n : Int) (w : World) : Calls Tryd.prog 50 #[.int .i64 n] w fun e w' => e = .returned (.int .i64 (w63 n)) ∧ w = w' := by
  go_enter Tryd.func50, Tryd.ntmps50
  go_wp2
  go_ret
  exact ⟨ret_int (shl_shr n), rfl⟩
theorem refWrap_any (n : Int) (w : World) : Calls Tryd.prog 65 #[.int .i64 n] w fun e w' => e = .returned (.int .i64 (w63 n)) ∧ w = w' := by
  go_enter Tryd.func65, Tryd.ntmps65
  go_wp2
  go_ret
  exact ⟨ret_int (shl_shr' n), rfl⟩
/-- Quotient and rest, cut towards nought; the least by -1 goes round. -/
def quo63 (a b : Int) : Int := w63 ((w63 a).tdiv (w63 b))
def rem63 (a b : Int) : Int := (w63 a).tmod (w63 b)
theorem tdiv_bd (x y : Int) (hx : -4611686018427387904 ≤ x) (hx' : x ≤ 4611686018427387903) : -4611686018427387904 ≤ x.tdiv y ∧ x.tdiv y ≤ 4611686018427387904 := by
  have h : (x.tdiv y).natAbs ≤ x.natAbs := by rw [Int.natAbs_tdiv]; exact Nat.div_le_self _ _
  omega
theorem tmod_bd (x y : Int) (hx : -4611686018427387904 ≤ x) (hx' : x ≤ 4611686018427387903) : -4611686018427387904 ≤ x.tmod y ∧ x.tmod y ≤ 4611686018427387904 := by
  have h : (x.tmod y).natAbs ≤ x.natAbs := by rw [Int.natAbs_tmod]; exact Nat.mod_le _ _
  omega
theorem quo_wrap (a b : Int) : w63 (wrap64 ((w63 a).tdiv (w63 b))) = quo63 a b := w63_wrap64 _

/-- digits 0 to 9 alone -/
def dgB (c : UInt8) : Bool := 48 ≤ c.toNat && c.toNat ≤ 57
def digs (l : List UInt8) : Bool := !l.isEmpty && l.all dgB

theorem get_list (s : ByteArray) (k : Nat) (h : k < s.size) : s[k] = s.data.toList[k]'(by simpa using h) := by simp; rfl
theorem digs_step (s : ByteArray) (k : Nat) (h : k < s.size) : (s.data.toList.drop k).all dgB = (dgB s[k] && (s.data.toList.drop (k + 1)).all dgB) := by
  rw [List.drop_eq_getElem_cons (by simpa using h), List.all_cons, get_list s k h]
theorem dgB_lo (c : UInt8) (h : (c.toNat : Int) < 48) : dgB c = false := by unfold dgB; simp; omega
theorem dgB_hi (c : UInt8) (h : (57 : Int) < c.toNat) : dgB c = false := by unfold dgB; simp; omega
theorem dgB_in (c : UInt8) (h : (48 : Int) ≤ c.toNat) (g : (c.toNat : Int) ≤ 57) : dgB c = true := by unfold dgB; simp; omega

/-- a string of these bytes -/
def st (l : List UInt8) : ByteArray := ⟨l.toArray⟩
theorem st_size (l : List UInt8) : (st l).size = l.length := by simp [st, ByteArray.size]
theorem st_list (l : List UInt8) : (st l).data.toList = l := by simp [st]
theorem st_eq (s : ByteArray) : s = st s.data.toList := by apply ByteArray.ext; simp [st]
theorem st_extract (l : List UInt8) (i j : Nat) : (st l).extract i j = st ((l.take j).drop i) := by
  apply ByteArray.ext
  apply Array.toList_inj.1
  simp [st, List.extract_eq_drop_take']

open Go.ChangeShapes Go.WideShapes Go.ChangeAt Go.RowKit
set_option linter.unusedVariables false

/-- what digits tell -/
def val (l : List UInt8) : Nat := l.foldl (fun n c => n * 10 + (c.toNat - 48)) 0
theorem val_snoc (l : List UInt8) (c : UInt8) : val (l ++ [c]) = val l * 10 + (c.toNat - 48) := by unfold val; rw [List.foldl_append]; rfl
theorem fold_ge : ∀ (b : List UInt8) (n : Nat), n ≤ b.foldl (fun n c => n * 10 + (c.toNat - 48)) n
  | [], n => Nat.le_refl _
  | c :: t, n => Nat.le_trans (by omega) (fold_ge t (n * 10 + (c.toNat - 48)))
theorem val_ge (a b : List UInt8) : val a ≤ val (a ++ b) := by unfold val; rw [List.foldl_append]; exact fold_ge b _
theorem val_take_le (l : List UInt8) (k : Nat) : val (l.take k) ≤ val l := by
  have := val_ge (l.take k) (l.drop k)
  rwa [List.take_append_drop] at this
theorem val_step (l : List UInt8) (k : Nat) (h : k < l.length) : val (l.take (k + 1)) = val (l.take k) * 10 + (l[k].toNat - 48) := by
  rw [List.take_add_one, List.getElem?_eq_getElem h, Option.toList_some, val_snoc]
/-- what is read: the number, the error -/
def outD (neg : Bool) (ds : List UInt8) : Int × Int :=
  if digs ds = false then (0, 2) else if 4611686018427387904 < val ds ∨ (val ds = 4611686018427387904 ∧ neg = false) then (0, 4) else (if neg then -(val ds : Int) else (val ds : Int), 0)
theorem digs_all {ds : List UInt8} (h : digs ds = true) (k : Nat) (hk : k < ds.length) : 48 ≤ ds[k].toNat ∧ ds[k].toNat ≤ 57 := by
  unfold digs at h
  simp only [Bool.and_eq_true] at h
  have := List.all_eq_true.1 h.2 ds[k] (List.getElem_mem hk)
  unfold dgB at this
  simp at this
  exact this
theorem tdiv_low (c : Nat) (h1 : 48 ≤ c) (h2 : c ≤ 57) : (-4611686018427387904 + ((c : Int) - 48)).tdiv 10 = -((4611686018427387904 - ((c : Int) - 48)) / 10) := by
  have e : (-4611686018427387904 + ((c : Int) - 48)) = -(4611686018427387904 - ((c : Int) - 48)) := by omega
  rw [e, Int.neg_tdiv, Int.tdiv_eq_ediv_of_nonneg (by omega)]
set_option linter.unusedVariables false

/-- what stands at the loop's head: all digits so far; the number, or that it is too big -/
def Seen (ds : List UInt8) (k n : Nat) (big : Bool) : Prop := (∀ i (h : i < ds.length), i < k → dgB ds[i] = true) ∧ ((big = false ∧ n = val (ds.take k) ∧ n ≤ 4611686018427387904) ∨ (big = true ∧ 4611686018427387904 < val (ds.take k)))
theorem seen_bad {ds : List UInt8} {k n : Nat} {big : Bool} (hk : k < ds.length) (hc : dgB ds[k] = false) (neg : Bool) : outD neg ds = (0, 2) := by
  have : digs ds = false := by
    unfold digs
    have h2 : ds.all dgB = false := by
      rw [List.all_eq_false]
      exact ⟨ds[k], List.getElem_mem hk, by rw [hc]; decide⟩
    rw [h2, Bool.and_false]
  exact if_pos this
theorem seen_big {ds : List UInt8} {k n : Nat} {big : Bool} (h : Seen ds k n big) (hk : k < ds.length) (hc : dgB ds[k] = true) (hb : big = true ∨ 461168601842738790 < n) : Seen ds (k + 1) n true := by
  refine ⟨fun i hi hik => ?_, .inr ⟨rfl, ?_⟩⟩
  · by_cases e : i = k
    · subst e; exact hc
    · exact h.1 i hi (by omega)
  · rw [val_step ds k hk]
    rcases h.2 with ⟨hb1, hn, hle⟩ | ⟨_, hv⟩
    · rcases hb with hb | hb
      · rw [hb1] at hb; cases hb
      · omega
    · omega
theorem seen_next {ds : List UInt8} {k n : Nat} (h : Seen ds k n false) (hk : k < ds.length) (hc : dgB ds[k] = true) (hb : ¬ 461168601842738790 < n) : Seen ds (k + 1) (n * 10 + (ds[k].toNat - 48)) (decide (4611686018427387904 < n * 10 + (ds[k].toNat - 48))) := by
  refine ⟨fun i hi hik => ?_, ?_⟩
  · by_cases e : i = k
    · subst e; exact hc
    · exact h.1 i hi (by omega)
  · have hn : n = val (ds.take k) := by
      rcases h.2 with ⟨_, hn, _⟩ | ⟨hb, _⟩
      · exact hn
      · cases hb
    rw [val_step ds k hk, ← hn]
    by_cases hd : 4611686018427387904 < n * 10 + (ds[k].toNat - 48)
    · exact .inr ⟨by simp [hd], hd⟩
    · exact .inl ⟨by simp [hd], rfl, by omega⟩
theorem seen_digs {ds : List UInt8} {n : Nat} {big : Bool} (h : Seen ds ds.length n big) (hp : 0 < ds.length) : digs ds = true := by
  unfold digs
  have h2 : ds.all dgB = true := List.all_eq_true.2 fun c hc => by
    obtain ⟨i, hi, rfl⟩ := List.getElem_of_mem hc
    exact h.1 i hi hi
  rw [h2, Bool.and_true]
  cases ds with
  | nil => simp at hp
  | cons c t => rfl
theorem seen_end {ds : List UInt8} {n : Nat} {big : Bool} (h : Seen ds ds.length n big) (hp : 0 < ds.length) (neg : Bool) : (big = true → outD neg ds = (0, 4)) ∧ (big = false → n ≤ 4611686018427387904 ∧ ((n = 4611686018427387904 ∧ neg = false → outD neg ds = (0, 4)) ∧ (¬ (n = 4611686018427387904 ∧ neg = false) → outD neg ds = (if neg then -(n : Int) else (n : Int), 0)))) := by
  have ho : outD neg ds = if 4611686018427387904 < val ds ∨ (val ds = 4611686018427387904 ∧ neg = false) then (0, 4) else (if neg then -(val ds : Int) else (val ds : Int), 0) := if_neg (by rw [seen_digs h hp]; decide)
  have h2 := h.2
  rw [List.take_length] at h2
  refine ⟨fun hb => ?_, fun hb => ?_⟩
  · rcases h2 with ⟨h3, _⟩ | ⟨_, h3⟩
    · rw [hb] at h3; cases h3
    · rw [ho, if_pos (.inl h3)]
  · rcases h2 with ⟨_, rfl, hle⟩ | ⟨h3, _⟩
    · refine ⟨hle, fun h4 => by rw [ho, if_pos (.inr h4)], fun h4 => by rw [ho, if_neg (by rintro (h5 | h5); omega; exact h4 h5)]⟩
    · rw [hb] at h3; cases h3
theorem dg_of (c : UInt8) : (dgB c = true ↔ 48 ≤ c.toNat ∧ c.toNat ≤ 57) := by unfold dgB; simp
set_option linter.unusedVariables false

def out (l : List UInt8) : Int × Int := match l with
  | 45 :: t => outD true t
  | l => outD false l
theorem out_neg (t : List UInt8) : out (45 :: t) = outD true t := rfl
theorem out_pos (l : List UInt8) (h : ∀ t, l ≠ 45 :: t) : out l = outD false l := by
  unfold out
  split
  · rename_i t; exact absurd rfl (h t)
  · rfl
theorem digs_nil (neg : Bool) : outD neg [] = (0, 2) := rfl
theorem st_at (l : List UInt8) (j : Nat) (h : j < (st l).size) : (st l)[j] = l[j]'(by rw [st_size] at h; exact h) := by
  rw [get_list (st l) j h]
  simp only [st_list]
theorem ofNat_dig (d : Nat) (h : d < 10) : (UInt8.ofNat (48 + d)).toNat = 48 + d := by
  rw [UInt8.toNat_ofNat']; omega
theorem dec_dig (u : Nat) : (∀ c ∈ Lib.decDigits u, dgB c = true) ∧ val (Lib.decDigits u) = u ∧ 0 < (Lib.decDigits u).length := by
  induction u using Nat.strongRecOn with
  | ind u ih =>
    by_cases h : u < 10
    · rw [Lib.decDigits, dif_pos h]
      refine ⟨fun c hc => ?_, ?_, by simp⟩
      · obtain rfl := List.mem_singleton.1 hc
        rw [dg_of, ofNat_dig u h]; omega
      · show 0 * 10 + ((UInt8.ofNat (48 + u)).toNat - 48) = u
        rw [ofNat_dig u h]; omega
    · rw [Lib.decDigits, dif_neg h]
      obtain ⟨h1, h2, h3⟩ := ih (u / 10) (by omega)
      refine ⟨fun c hc => ?_, ?_, by simp⟩
      · rcases List.mem_append.1 hc with hc | hc
        · exact h1 c hc
        · obtain rfl := List.mem_singleton.1 hc
          rw [dg_of, ofNat_dig _ (Nat.mod_lt _ (by decide))]
          have := Nat.mod_lt u (show 0 < 10 by decide)
          omega
      · rw [val_snoc, h2, ofNat_dig _ (Nat.mod_lt _ (by decide))]; omega
theorem dec_digs (u : Nat) : digs (Lib.decDigits u) = true := by
  obtain ⟨h1, _, h3⟩ := dec_dig u
  unfold digs
  rw [List.all_eq_true.2 h1, Bool.and_true]
  cases hh : Lib.decDigits u with
  | nil => rw [hh] at h3; simp at h3
  | cons c t => rfl
theorem dec_first (u : Nat) : ∀ t, Lib.decDigits u ≠ 45 :: t := fun t e => by
  have h1 := (dec_dig u).1 45 (by rw [e]; simp)
  exact absurd h1 (by decide)
/-- digits come back -/
theorem out_itoa (m : Int) (h1 : -4611686018427387904 ≤ m) (h2 : m ≤ 4611686018427387903) : out (Lib.itoa m) = (m, 0) := by
  unfold Lib.itoa
  split
  · rw [out_neg]
    unfold outD
    rw [if_neg (by rw [dec_digs]; decide), (dec_dig _).2.1, if_neg (by rintro (h | ⟨_, h⟩); omega; cases h)]
    simp only [if_true]
    congr 1; omega
  · rw [out_pos _ (dec_first _)]
    unfold outD
    rw [if_neg (by rw [dec_digs]; decide), (dec_dig _).2.1, if_neg (by omega)]
    simp only [Bool.false_eq_true, if_false]
    congr 1; omega
theorem dec_len : ∀ (k u : Nat), u < 10 ^ (k + 1) → (Lib.decDigits u).length ≤ k + 1
  | 0, u, h => by rw [Lib.decDigits, dif_pos (by simpa using h)]; simp
  | k + 1, u, h => by
    by_cases hu : u < 10
    · rw [Lib.decDigits, dif_pos hu]; simp
    · rw [Lib.decDigits, dif_neg hu, List.length_append]
      have := dec_len k (u / 10) (by rw [Nat.div_lt_iff_lt_mul (by decide), ← Nat.pow_succ]; exact h)
      simp; omega
theorem itoa_len (m : Int) (h1 : -4611686018427387904 ≤ m) (h2 : m ≤ 4611686018427387903) : (Lib.itoa m).length ≤ 30 := by
  have key : ∀ u : Nat, u ≤ 4611686018427387904 → (Lib.decDigits u).length ≤ 20 := fun u hu => dec_len 19 u (Nat.lt_of_le_of_lt hu (by decide))
  unfold Lib.itoa
  split
  · have := key m.natAbs (by omega); simp; omega
  · have := key m.toNat (by omega); omega
theorem below_grow (w : World) (k : Nat) (os : Array Obj) : Below w.heap.size w (Go.Sort.grow (w.drewN k) os) := by
  refine ⟨rfl, rfl, rfl, ?_, fun i hi => ?_⟩
  · show w.heap.size ≤ (w.heap ++ os).size
    simp
  · show (w.heap ++ os)[i]? = w.heap[i]?
    rw [Array.getElem?_append_left hi]
theorem text_any (n : Int) (w : World) (ht : Lib.TabIs Tryd.prog w "internal/strconv.uint64pow10" .u64 Lib.pow10Tab) :
    Calls Tryd.prog 60 #[.int .i64 n] w fun e w' => e = .returned (.string (st (Lib.itoa (w63 n)))) ∧ Hid (Below w.heap.size w w') := by
  have h1 := w63_lo n
  have h2 := w63_hi n
  have HI := Lib.hid (Tryd.strconv_Itoa (w63 n) (by omega) (by omega) w ht)
  clear ht
  go_enter Tryd.func60, Tryd.ntmps60
  go_wp2_with fail
  refine (wrap_any _ _).mono ?_
  rintro e w' ⟨rfl, rfl⟩
  go_wp2_with fail
  refine HI.out.mono ?_
  rintro e w' ⟨rfl, k, os, rfl⟩
  have hb := Lib.hid (below_grow w k os)
  generalize Go.Sort.grow (w.drewN k) os = w2 at *
  go_wp2_with fail
  go_ret
  exact ⟨rfl, hb⟩

set_option linter.unusedVariables false

theorem st_append (a b : List UInt8) : st a ++ st b = st (a ++ b) := by
  apply ByteArray.ext
  apply Array.toList_inj.1
  simp [st]
theorem st_add (a b : List UInt8) (h : a.length + b.length ≤ 20000) : ∀ w, (Op.stringOp .add (st a) (st b)).run Tryd.prog w = .ok (.string (st (a ++ b))) w := fun w => by
  rw [run_string_add_sum w _ _ (by rw [st_size, st_size]; omega), st_append]
theorem st_one (b : Nat) (hb : b < 256) : strOfNums [(b : Int)] = st [UInt8.ofNat b] := by
  apply ByteArray.ext
  apply Array.toList_inj.1
  simp [st, strOfNums]
theorem cell_one (w : World) (v : Value) (t : TypeId) : (w.alloc (.cells #[v] t)).cell? ⟨w.heap.size, 0, none⟩ = some v := by simp [World.cell?, show (w.alloc (.cells #[v] t)).heap = w.heap.push (.cells #[v] t) from rfl]
theorem conv_one (w : World) (b : Nat) (hb : b < 256) : (convert 29 9 (.slice (some ⟨w.heap.size, 0, none⟩) 1 1)).run Tryd.prog (w.alloc (.cells #[.int .u8 (b : Int)] 5)) = .ok (.string (st [UInt8.ofNat b])) (w.alloc (.cells #[.int .u8 (b : Int)] 5)) := by
  rw [← st_one b hb]
  exact run_convert_bytes_arg (P := Tryd.prog) _ 29 5 Tryd.underlying29 Tryd.underlying5 w.heap.size 0 1 1 [(b : Int)] rfl (fun i hi => by
    obtain rfl : i = 0 := by omega
    exact cell_one w (.int .u8 (b : Int)) 5) 9 Tryd.underlying9
/-- a digit -/
def dgc (d : Nat) : UInt8 := UInt8.ofNat (48 + d)
/-- what stands at the loop's head -/
def Made (K x : Nat) (bs : List UInt8) : Prop := (bs = [] ∧ x = K) ∨ (bs ≠ [] ∧ 0 < x ∧ Lib.decDigits x ++ bs = Lib.decDigits K) ∨ (bs ≠ [] ∧ x = 0 ∧ bs = Lib.decDigits K)
theorem made_next {K x : Nat} {bs : List UInt8} (h : Made K x bs) (hc : 0 < x ∨ bs = []) : Made K (x / 10) ([dgc (x % 10)] ++ bs) := by
  have key : Lib.decDigits x ++ bs = Lib.decDigits K := by
    rcases h with ⟨rfl, rfl⟩ | ⟨_, _, h⟩ | ⟨h1, h2, _⟩
    · rw [List.append_nil]
    · exact h
    · rcases hc with hc | hc
      · omega
      · exact absurd hc h1
  by_cases hx : x < 10
  · refine .inr (.inr ⟨by simp, by omega, ?_⟩)
    rw [Lib.decDigits, dif_pos hx] at key
    rw [← key, show x % 10 = x by omega]; rfl
  · refine .inr (.inl ⟨by simp, by omega, ?_⟩)
    rw [Lib.decDigits, dif_neg hx] at key
    rw [← key, List.append_assoc]; rfl
theorem made_end {K x : Nat} {bs : List UInt8} (h : Made K x bs) (h0 : x = 0) (hb : bs ≠ []) : bs = Lib.decDigits K := by
  rcases h with ⟨h1, _⟩ | ⟨_, h1, _⟩ | ⟨_, _, h⟩
  · exact absurd h1 hb
  · omega
  · exact h
theorem made_len {K x : Nat} {bs : List UInt8} (h : Made K x bs) (hK : K ≤ 4611686018427387904) : bs.length ≤ 20 := by
  have key : (Lib.decDigits K).length ≤ 20 := dec_len 19 K (Nat.lt_of_le_of_lt hK (by decide))
  rcases h with ⟨rfl, _⟩ | ⟨_, _, h⟩ | ⟨_, _, h⟩
  · simp
  · rw [← h, List.length_append] at key; omega
  · rw [h]; exact key
def strLen : Value → Nat
  | .string b => b.size
  | _ => 0
set_option maxRecDepth 20000 in
set_option maxHeartbeats 4000000 in
theorem refText_any (n : Int) (w : World) :
    Calls Tryd.prog 39 #[.int .i64 n] w fun e w' => e = .returned (.string (st (Lib.itoa (w63 n)))) ∧ Hid (Below w.heap.size w w') := by
  have h1 := w63_lo n
  have h2 := w63_hi n
  have HW := Lib.hid (refWrap_any n w)
  generalize w63 n = m at *
  obtain ⟨K, hK⟩ : ∃ K, m.natAbs = K := ⟨_, rfl⟩
  have hKle : K ≤ 4611686018427387904 := by omega
  have hK64 : K < 18446744073709551616 := by omega
  by_cases hn : m < 0
  case' pos =>
    have HI : Hid (True → st (Lib.itoa m) = st ([45] ++ Lib.decDigits K)) := Lib.hid fun _ => by unfold Lib.itoa; rw [if_pos hn, hK]; rfl
    have e0 : IntKind.u64.wrap (-IntKind.u64.wrap m) = (K : Int) := by rw [IntKind.wrap_u64, IntKind.wrap_u64]; omega
  case' neg =>
    have HI : Hid (True → st (Lib.itoa m) = st (Lib.decDigits K)) := Lib.hid fun _ => by unfold Lib.itoa; rw [if_neg hn, show m.toNat = K by omega]
    have e0 : m = (K : Int) := by omega
  all_goals
    clear hK
    go_enter Tryd.func39, Tryd.ntmps39
    go_wp2_with fail
    refine HW.out.mono ?_
    rintro e w' ⟨rfl, rfl⟩
    go_wp2_with fail
    go_loopw [4, 5] (fun u b wr => ∃ (x : Nat) (bs : List UInt8), u = .int .u64 (x : Int) ∧ b = .string (st bs) ∧ x ≤ K ∧ Hid (Made K x bs) ∧ Hid (Below w.heap.size w wr)) (fun u b _ => 2 * (intOf u).toNat + (if strLen b = 0 then 1 else 0))
    case atStart => exact ⟨K, [], by first | rfl | (rw [e0]) | simp [e0], rfl, by omega, Lib.hid (.inl ⟨rfl, rfl⟩), Lib.hid (Below.refl _ _)⟩
    case round =>
      obtain ⟨x, bs, rfl, rfl, hxK, hmade, hbel⟩ := hrel
      have hsz := hbel.out.size
      have hlen := made_len hmade.out hKle
      have hcv : (convert 29 9 (.slice (some ⟨wr.heap.size, 0, none⟩) 1 1)).run Tryd.prog (wr.alloc (.cells #[.int .u8 (48 + (x : Int) % 10)] 5)) = .ok (.string (st [dgc (x % 10)])) (wr.alloc (.cells #[.int .u8 (48 + (x : Int) % 10)] 5)) := by
        have h := conv_one wr (48 + x % 10) (by omega)
        have e : ((48 + x % 10 : Nat) : Int) = 48 + (x : Int) % 10 := by omega
        rw [e] at h
        exact h
      have hb2 := Lib.hid (hbel.out.alloc hsz (.cells #[.int .u8 (48 + (x : Int) % 10)] 5))
      by_cases hx : 0 < x
      · have HN := Lib.hid (made_next hmade.out (.inl hx))
        have hadd := st_add [dgc (x % 10)] bs (by simp; omega)
        have HM : Hid (strLen (.string (st ([dgc (x % 10)] ++ bs))) ≠ 0) := Lib.hid (by show (st ([dgc (x % 10)] ++ bs)).size ≠ 0; rw [st_size]; simp)
        clear hmade
        go_wp2_with fail
        go_roundw
        case rel => exact ⟨x / 10, [dgc (x % 10)] ++ bs, by go_num, rfl, by omega, HN, hb2⟩
        case measure =>
          have := HM.out
          simp only [intOf]
          (repeat' split) <;> omega
      · obtain rfl : x = 0 := by omega
        by_cases hb : bs = []
        · subst hb
          have HN := Lib.hid (made_next hmade.out (.inr rfl))
          have hadd : ∀ w, (Op.stringOp .add (st [dgc 0]) { data := #[] }).run Tryd.prog w = .ok (.string (st ([dgc 0] ++ []))) w := st_add [dgc 0] [] (by simp)
          have HM : Hid (strLen (.string (st ([dgc 0] ++ []))) ≠ 0) := Lib.hid (by show (st ([dgc 0] ++ [])).size ≠ 0; rw [st_size]; simp)
          have hcv0 : (convert 29 9 (.slice (some ⟨wr.heap.size, 0, none⟩) 1 1)).run Tryd.prog (wr.alloc (.cells #[.int .u8 48] 5)) = .ok (.string (st [dgc 0])) (wr.alloc (.cells #[.int .u8 48] 5)) := conv_one wr 48 (by decide)
          have hb0 := Lib.hid (hbel.out.alloc hsz (.cells #[.int .u8 48] 5))
          have e1 : st [] = { data := #[] } := rfl
          rw [e1]
          clear hmade e1 hcv hb2
          go_wp2_with fail
          go_roundw
          case rel => exact ⟨0, [dgc 0] ++ [], by first | rfl | go_num, rfl, by omega, HN, hb0⟩
          case measure =>
            have := HM.out
            have h0 : strLen (.string { data := #[] }) = 0 := rfl
            have h3 : strLen (.string (st [])) = 0 := rfl
            have h4 : strLen (.string (st [dgc 0])) ≠ 0 := this
            simp only [intOf]
            (repeat' split) <;> omega
        · have HE := Lib.hid (made_end hmade.out rfl hb)
          have hne : (st bs).toList.isEmpty = false := by
            rw [ByteArray.toList_eq, st_list]
            cases bs with
            | nil => exact absurd rfl hb
            | cons c t => rfl
          have hadd : ∀ w, (Op.stringOp .add { data := #[45] } (st bs)).run Tryd.prog w = .ok (.string (st ([45] ++ bs))) w := st_add [45] bs (by simp; omega)
          clear hmade hcv
          go_wp2_with fail
          go_ret
          exact ⟨by rw [HI.out trivial, ← HE.out]; rfl, hbel⟩

end Go.Proofs.YtpacjcgpeomnaaaDoor.Fd
