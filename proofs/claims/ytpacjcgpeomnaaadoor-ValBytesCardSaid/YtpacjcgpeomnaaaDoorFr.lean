/- Contracts of one family of functions, put together: Fw. -/
import Derived.Test.YtpacjcgpeomnaaaDoorFw
namespace Go.Proofs.YtpacjcgpeomnaaaDoor.Fw
open Go.ChangeShapes Go.WideShapes Go.ChangeAt Go.RowKit Go.Lib

set_option maxRecDepth 20000 in
theorem inNum_err (g : Nat) (L : List Nat) (err least most : Int) (he : err ≠ 0) (w : World) (hb : Hid (Box w g L err)) :
    Calls Tryd.prog 55 #[.pointer (some ⟨g, 0, none⟩), .int .i64 least, .int .i64 most] w fun e w' => e = .returned (.int .i64 0) ∧ w = w' := by
  have HE := Lib.hid (err_any g L err w hb)
  go_enter Tryd.func55, Tryd.ntmps55
  go_wp2_with fail
  refine HE.out.mono ?_
  rintro e w' ⟨rfl, rfl⟩
  go_wp2_with fail
  go_ret
  exact ⟨rfl, rfl⟩
set_option maxRecDepth 20000 in
theorem inStr_err (g : Nat) (L : List Nat) (err most : Int) (he : err ≠ 0) (w : World) (hb : Hid (Box w g L err)) :
    Calls Tryd.prog 56 #[.pointer (some ⟨g, 0, none⟩), .int .i64 most] w fun e w' => e = .returned (.string { data := #[] }) ∧ w = w' := by
  have HE := Lib.hid (err_any g L err w hb)
  have HN := Lib.hid (inNum_err g L err 0 most he w hb)
  go_enter Tryd.func56, Tryd.ntmps56
  go_wp2_with fail
  refine HN.out.mono ?_
  rintro e w' ⟨rfl, rfl⟩
  go_wp2_with fail
  refine HE.out.mono ?_
  rintro e w' ⟨rfl, rfl⟩
  go_wp2_with fail
  go_ret
  exact ⟨rfl, rfl⟩
set_option maxRecDepth 20000 in
set_option maxHeartbeats 2000000 in
theorem inStr_any (g : Nat) (L : List Nat) (most : Int) (hn : L.length ≤ 1000000) (hB : ∀ b ∈ L, b < 256) (w : World) (hb : Hid (Box w g L 0)) :
    Calls Tryd.prog 56 #[.pointer (some ⟨g, 0, none⟩), .int .i64 most] w fun e w' => e = .returned (.string (sv (rdS most L).1)) ∧ Box w' g (rdS most L).2.1 (rdS most L).2.2 ∧ Below g w w' := by
  have HN := Lib.hid (inNum_any g L 0 most hn hB w hb)
  have hge := rdB_ge most L
  obtain ⟨n, sz, er, hr⟩ : ∃ n sz er, rdB 0 most L = (n, sz, er) := ⟨_, _, _, rfl⟩
  have hS : rdS most L = if er ≠ 0 then ([], L.drop sz, er) else if ((L.drop sz).length : Int) < n then ([], L.drop sz, 3) else ((L.drop sz).take n.toNat, (L.drop sz).drop n.toNat, 0) := by unfold rdS; rw [hr]
  rw [hr] at HN hge
  have hge' : er = 0 → 0 ≤ n := hge
  have hTl : (L.drop sz).length ≤ 1000000 := by rw [List.length_drop]; omega
  rw [hS]
  obtain ⟨T, hT⟩ : ∃ T, L.drop sz = T := ⟨_, rfl⟩
  have HN2 : Hid (Calls Tryd.prog 55 #[.pointer (some ⟨g, 0, none⟩), .int .i64 0, .int .i64 most] w fun e w' => e = .returned (.int .i64 n) ∧ Hid (Box w' g T er) ∧ Hid (Below g w w')) :=
    Lib.hid (HN.out.mono fun e w' ⟨h1, h2, h3⟩ => ⟨h1, Lib.hid (by rw [← hT]; exact h2), Lib.hid h3⟩)
  rw [hT] at hTl ⊢
  clear HN hge hr hS hT hB hn
  by_cases he : er = 0
  · subst he
    have hn0 := hge' rfl
    clear hge'
    obtain ⟨k, rfl⟩ := Int.eq_ofNat_of_zero_le hn0
    rw [if_neg (by simp)]
    by_cases hk : (T.length : Int) < (k : Int)
    · rw [if_pos hk]
      have hk' : T.length < k := by omega
      go_enter Tryd.func56, Tryd.ntmps56
      go_wp2_with fail
      refine HN2.out.mono ?_
      rintro e w1 ⟨rfl, hb1, hl1⟩
      obtain ⟨hc1, hf1⟩ := box_facts hb1.out
      obtain ⟨hh, oo, cap, hg, _, _, _⟩ := hb1.out
      have hc0 := box_cell0 hg
      clear hg
      go_wp2_with fail
      refine (err_any g T 0 _ hb1).mono ?_
      rintro e w' ⟨rfl, rfl⟩
      go_wp2_with fail
      go_ret
      exact ⟨rfl, box_fail hb1.out 3, hl1.out.trans (below_set _ _ _ _)⟩
    · rw [if_neg hk, Int.toNat_natCast]
      have hk' : k ≤ T.length := by omega
      go_enter Tryd.func56, Tryd.ntmps56
      go_wp2_with fail
      refine HN2.out.mono ?_
      rintro e w1 ⟨rfl, hb1, hl1⟩
      obtain ⟨hc1, hf1⟩ := box_facts hb1.out
      obtain ⟨hh, oo, cap, hg, hcap, hne, hat⟩ := hb1.out
      have hc0 := box_cell0 hg
      have hf0 := box_free (i := 0) hg
      have HG := Lib.hid (fun _ : True => hg)
      have HA := Lib.hid hat
      have hq : (convert 29 9 (.slice (some ⟨hh, oo, none⟩) k cap)).run Tryd.prog w1 = .ok (.string (sv (T.take k))) w1 := at_reads hat k hk' w1 (Below.refl _ _)
      clear hg hat
      by_cases hcs : cap = k
      · subst hcs
        go_wp2_with fail
        refine (err_any g T 0 _ hb1).mono ?_
        rintro e w' ⟨rfl, rfl⟩
        go_wp2_with fail
        go_ret
        refine ⟨rfl, ⟨hh, oo, cap - cap, ?_, by rw [List.length_drop]; omega, hne, at_nil (by rw [List.length_drop]; omega)⟩, hl1.out.trans (below_set _ _ _ _)⟩
        rw [List.length_drop, show T.length - cap = 0 by omega, Nat.sub_self]
        exact box_set0 (HG.out trivial) _
      · go_wp2_with fail
        refine (err_any g T 0 _ hb1).mono ?_
        rintro e w' ⟨rfl, rfl⟩
        go_wp2_with fail
        go_ret
        refine ⟨rfl, ⟨hh, oo + k, cap - k, ?_, by rw [List.length_drop]; omega, hne, at_set (at_drop HA.out k) _ _ hne _⟩, hl1.out.trans (below_set _ _ _ _)⟩
        rw [List.length_drop]
        exact box_set0 (HG.out trivial) _
  · rw [if_pos he]
    go_enter Tryd.func56, Tryd.ntmps56
    go_wp2_with fail
    refine HN2.out.mono ?_
    rintro e w1 ⟨rfl, hb1, hl1⟩
    go_wp2_with fail
    refine (err_any g T er _ hb1).mono ?_
    rintro e w' ⟨rfl, rfl⟩
    go_wp2_with fail
    go_ret
    exact ⟨rfl, hb1.out, hl1.out⟩

theorem fits9 (x k : Nat) (h : x * 2 ^ (7 * k) < 2 ^ 64) (hx : 0 < x) : k ≤ 9 ∧ (k = 9 → x ≤ 1) ∧ (128 ≤ x → k ≤ 8) := by
  have key : ∀ j, j ≤ k → x * 2 ^ (7 * j) < 2 ^ 64 := fun j hj => Nat.lt_of_le_of_lt (Nat.mul_le_mul_left _ (Nat.pow_le_pow_right (by decide) (by omega))) h
  refine ⟨?_, ?_, ?_⟩
  · rcases Nat.lt_or_ge 9 k with h9 | h9
    · have := key 10 (by omega); omega
    · exact h9
  · intro e; subst e; omega
  · intro h128
    rcases Nat.lt_or_ge 8 k with h9 | h9
    · have := key 9 (by omega); omega
    · exact h9
theorem rd_vb (x : Nat) : ∀ (k u : Nat) (t : List Nat), x * 2 ^ (7 * k) < 2 ^ 64 → (0 < k → 0 < x) → rd k u (vb x ++ t) = (uz (u + x * 2 ^ (7 * k)), k + (vb x).length, 0) := by
  induction x using Nat.strongRecOn with
  | ind x ih =>
    intro k u t h hk
    by_cases hx : x < 128
    · rw [vb_lo hx]
      have h9 : ¬ (k = 9 ∧ 1 < x) := fun ⟨e1, e2⟩ => by have := (fits9 x k h (by omega)).2.1 e1; omega
      show (if k = 9 ∧ 1 < x then _ else if 128 ≤ x then _ else if x = 0 ∧ 0 < k then _ else _) = _
      rw [if_neg h9, if_neg (by omega), if_neg (by omega), Nat.mod_eq_of_lt hx]
      rfl
    · rw [vb_hi hx]
      have f := fits9 x k h (by omega)
      have h8 := f.2.2 (by omega)
      show (if k = 9 ∧ 1 < x % 128 + 128 then _ else if 128 ≤ x % 128 + 128 then rd (k + 1) (u + (x % 128 + 128) % 128 * 2 ^ (7 * k)) (vb (x / 128) ++ t) else _) = _
      have e0 : x / 128 * 2 ^ (7 * (k + 1)) = (x / 128 * 128) * 2 ^ (7 * k) := by
        rw [show 7 * (k + 1) = 7 * k + 7 by omega, Nat.pow_add, Nat.mul_assoc, Nat.mul_comm 128, show (2 : Nat) ^ 7 = 128 from rfl]
      have hlt : x / 128 * 2 ^ (7 * (k + 1)) < 2 ^ 64 := by
        rw [e0]
        exact Nat.lt_of_le_of_lt (Nat.mul_le_mul_right _ (Nat.div_mul_le_self x 128)) h
      rw [if_neg (by omega), if_pos (by omega), ih (x / 128) (by omega) (k + 1) _ t hlt (fun _ => by omega), e0]
      have e1 : u + (x % 128 + 128) % 128 * 2 ^ (7 * k) + x / 128 * 128 * 2 ^ (7 * k) = u + x * 2 ^ (7 * k) := by
        rw [Nat.add_assoc, ← Nat.add_mul, show (x % 128 + 128) % 128 + x / 128 * 128 = x by omega]
      rw [e1, List.length_cons, show k + 1 + (vb (x / 128)).length = k + ((vb (x / 128)).length + 1) by omega]
/-- a beginning of a number -/
theorem rd_cut (x : Nat) : ∀ (k u j : Nat), x * 2 ^ (7 * k) < 2 ^ 64 → (0 < k → 0 < x) → j < (vb x).length → rd k u ((vb x).take j) = (0, 0, 3) := by
  induction x using Nat.strongRecOn with
  | ind x ih =>
    intro k u j h hk hj
    match j, hj with
    | 0, _ => rw [List.take_zero]; rfl
    | j + 1, hj =>
      by_cases hx : x < 128
      · rw [vb_lo hx] at hj; simp at hj
      · rw [vb_hi hx] at hj ⊢
        rw [List.length_cons] at hj
        rw [List.take_succ_cons]
        have f := fits9 x k h (by omega)
        have h8 := f.2.2 (by omega)
        show (if k = 9 ∧ 1 < x % 128 + 128 then _ else if 128 ≤ x % 128 + 128 then rd (k + 1) (u + (x % 128 + 128) % 128 * 2 ^ (7 * k)) ((vb (x / 128)).take j) else _) = _
        have e0 : x / 128 * 2 ^ (7 * (k + 1)) = (x / 128 * 128) * 2 ^ (7 * k) := by
          rw [show 7 * (k + 1) = 7 * k + 7 by omega, Nat.pow_add, Nat.mul_assoc, Nat.mul_comm 128, show (2 : Nat) ^ 7 = 128 from rfl]
        have hlt : x / 128 * 2 ^ (7 * (k + 1)) < 2 ^ 64 := by
          rw [e0]
          exact Nat.lt_of_le_of_lt (Nat.mul_le_mul_right _ (Nat.div_mul_le_self x 128)) h
        rw [if_neg (by omega), if_pos (by omega), ih (x / 128) (by omega) (k + 1) _ j hlt (fun _ => by omega) (by omega)]
/-- a written number is read, and what stands behind it is left -/
theorem rd_num (n : Int) (h1 : -9223372036854775808 ≤ n) (h2 : n ≤ 9223372036854775807) (t : List Nat) : rd 0 0 (vb (zz n) ++ t) = (n, (vb (zz n)).length, 0) := by
  have h := rd_vb (zz n) 0 0 t (by have := zz_lt n h1 h2; omega) (by omega)
  rw [h, Nat.zero_add, Nat.mul_zero, Nat.pow_zero, Nat.mul_one, Nat.zero_add, uz_zz]
theorem rd_num_cut (n : Int) (h1 : -9223372036854775808 ≤ n) (h2 : n ≤ 9223372036854775807) (j : Nat) (hj : j < (vb (zz n)).length) : rd 0 0 ((vb (zz n)).take j) = (0, 0, 3) :=
  rd_cut (zz n) 0 0 j (by have := zz_lt n h1 h2; omega) (by omega) hj

open Go.ChangeShapes Go.WideShapes Go.ChangeAt Go.RowKit Go.Lib
set_option linter.unusedVariables false

def encN (ns : List Int) : List (List Nat) := ns.map fun n => vb (zz n)
def wT (t : ByteArray) : List Nat := vb (zz (t.size : Int)) ++ bytesOf t
def encT (ts : List ByteArray) : List (List Nat) := ts.map wT
def IntOk (n : Int) : Prop := -9223372036854775808 ≤ n ∧ n ≤ 9223372036854775807
def Bytes (L : List Nat) : Prop := ∀ b ∈ L, b < 256
theorem bytes_append {A B : List Nat} (hA : Bytes A) (hB : Bytes B) : Bytes (A ++ B) := fun b hb => by
  rcases List.mem_append.1 hb with h | h
  · exact hA b h
  · exact hB b h
theorem bytes_take {A : List Nat} (hA : Bytes A) (k : Nat) : Bytes (A.take k) := fun b hb => hA b (List.mem_of_mem_take hb)
theorem bytes_of (s : ByteArray) : Bytes (bytesOf s) := fun b hb => by
  obtain ⟨u, _, rfl⟩ := List.mem_map.1 hb
  exact u.toNat_lt
theorem bytes_wT (t : ByteArray) : Bytes (wT t) := bytes_append (vb_byte _) (bytes_of t)
theorem encN_len : ∀ ns : List Int, (∀ n ∈ ns, IntOk n) → (encN ns).flatten.length ≤ 10 * ns.length
  | [], _ => Nat.le_refl _
  | n :: t, h => by
    have ih := encN_len t fun m hm => h m (List.mem_cons_of_mem _ hm)
    have h1 := vb_ten (zz n) (zz_lt n (h n (List.mem_cons_self ..)).1 (h n (List.mem_cons_self ..)).2)
    show (vb (zz n) ++ (encN t).flatten).length ≤ 10 * (t.length + 1)
    rw [List.length_append]; omega
theorem encT_len : ∀ ts : List ByteArray, (∀ t ∈ ts, t.size ≤ 200) → (encT ts).flatten.length ≤ 210 * ts.length
  | [], _ => Nat.le_refl _
  | t :: r, h => by
    have ih := encT_len r fun m hm => h m (List.mem_cons_of_mem _ hm)
    have h0 := h t (List.mem_cons_self ..)
    have h1 := vb_ten (zz (t.size : Int)) (zz_lt _ (by omega) (by omega))
    show (wT t ++ (encT r).flatten).length ≤ 210 * (r.length + 1)
    rw [List.length_append]
    unfold wT
    rw [List.length_append, bytesOf_len]; omega
theorem encN_bytes (ns : List Int) : Bytes (encN ns).flatten := fun b hb => by
  obtain ⟨l, hl, hb⟩ := List.mem_flatten.1 hb
  obtain ⟨n, _, rfl⟩ := List.mem_map.1 hl
  exact vb_byte _ b hb
theorem encT_bytes (ts : List ByteArray) : Bytes (encT ts).flatten := fun b hb => by
  obtain ⟨l, hl, hb⟩ := List.mem_flatten.1 hb
  obtain ⟨t, _, rfl⟩ := List.mem_map.1 hl
  exact bytes_wT t b hb
/-- what is left to be read, of a beginning of it that is short: it ended too soon, or there is less than all -/
def St (L : List Nat) (err : Int) (R : List Nat) : Prop := err = 3 ∨ (err = 0 ∧ ∃ r, L = R.take r ∧ r < R.length)

theorem rdB_num (n : Int) (hn : IntOk n) (least most : Int) (h1 : least ≤ n) (h2 : n ≤ most) (R : List Nat) : rdB least most (vb (zz n) ++ R) = (n, (vb (zz n)).length, 0) := by
  unfold rdB
  rw [rd_num n hn.1 hn.2 R]
  exact if_neg fun h => by rcases h with ⟨_, h | h⟩ <;> (simp only at h; omega)
theorem rdB_cut (n : Int) (hn : IntOk n) (least most : Int) (j : Nat) (hj : j < (vb (zz n)).length) : rdB least most ((vb (zz n)).take j) = (0, 0, 3) := by
  unfold rdB
  rw [rd_num_cut n hn.1 hn.2 j hj]
  exact if_neg fun h => absurd h.1 (by decide)
theorem take_front (v R : List Nat) (r : Nat) (h : r < v.length) : (v ++ R).take r = v.take r := by
  rw [List.take_append_of_le_length (by omega)]
theorem take_behind (v R : List Nat) (r : Nat) (h : v.length ≤ r) : (v ++ R).take r = v ++ R.take (r - v.length) := by
  rw [List.take_append, List.take_of_length_le h]
/-- the next number, whole -/
theorem num_whole (g : Nat) (n : Int) (hn : IntOk n) (R : List Nat) (hR : Bytes R) (hl : ((vb (zz n)) ++ R).length ≤ 1000000) (w : World) (hb : Hid (Box w g (vb (zz n) ++ R) 0)) :
    Calls Tryd.prog 55 #[.pointer (some ⟨g, 0, none⟩), .int .i64 (-9223372036854775808), .int .i64 9223372036854775807] w fun e w' => e = .returned (.int .i64 n) ∧ Hid (Box w' g R 0) ∧ Hid (Below g w w') :=
  (inNum_any g _ (-9223372036854775808) 9223372036854775807 hl (bytes_append (vb_byte _) hR) w hb).mono fun e w' ⟨h1, h2, h3⟩ => by
    rw [rdB_num n hn _ _ hn.1 hn.2] at h1 h2
    exact ⟨h1, Lib.hid (by simpa using h2), Lib.hid h3⟩
/-- the next number, of a short row -/
theorem num_short (g : Nat) (n : Int) (hn : IntOk n) (L R : List Nat) (err : Int) (hR : Bytes R) (hL : Bytes L) (hl : L.length ≤ 1000000) (hS : St L err (vb (zz n) ++ R)) (w : World) (hb : Hid (Box w g L err)) :
    Calls Tryd.prog 55 #[.pointer (some ⟨g, 0, none⟩), .int .i64 (-9223372036854775808), .int .i64 9223372036854775807] w fun e w' => ∃ n' L' err', e = .returned (.int .i64 n') ∧ Hid (Box w' g L' err') ∧ Hid (St L' err' R ∧ Bytes L' ∧ L'.length ≤ 1000000) ∧ Hid (Below g w w') := by
  rcases hS with rfl | ⟨rfl, r, rfl, hr⟩
  · exact (inNum_err g L 3 _ _ (by decide) w hb).mono fun e w' ⟨h1, h2⟩ => by
      subst h2
      exact ⟨0, L, 3, h1, hb, Lib.hid ⟨.inl rfl, hL, hl⟩, Lib.hid (Below.refl _ _)⟩
  · refine (inNum_any g _ (-9223372036854775808) 9223372036854775807 hl hL w hb).mono fun e w' ⟨h1, h2, h3⟩ => ?_
    by_cases hrv : r < (vb (zz n)).length
    · rw [take_front _ _ _ hrv] at hL hl h1 h2
      rw [rdB_cut n hn _ _ r hrv] at h1 h2
      exact ⟨_, _, _, h1, Lib.hid h2, Lib.hid ⟨.inl rfl, by simpa using hL, by simpa using hl⟩, Lib.hid h3⟩
    · rw [take_behind _ _ _ (by omega)] at hL hl h1 h2
      rw [rdB_num n hn _ _ hn.1 hn.2] at h1 h2
      rw [List.length_append] at hr hl
      refine ⟨_, R.take (r - (vb (zz n)).length), _, h1, Lib.hid (by simpa using h2), Lib.hid ⟨.inr ⟨rfl, r - (vb (zz n)).length, rfl, by omega⟩, bytes_take hR _, by omega⟩, Lib.hid h3⟩
theorem sizeOk (t : ByteArray) (h : t.size ≤ 200) : IntOk (t.size : Int) := ⟨by omega, by omega⟩
theorem rdS_text (t : ByteArray) (h : t.size ≤ 200) (R : List Nat) : rdS 200 (wT t ++ R) = (bytesOf t, R, 0) := by
  unfold rdS wT
  rw [List.append_assoc, rdB_num _ (sizeOk t h) 0 200 (by omega) (by omega)]
  simp only [ne_eq, not_true_eq_false, if_false, List.drop_left, Int.toNat_natCast]
  rw [if_neg (by rw [List.length_append, bytesOf_len]; omega)]
  have e : t.size = (bytesOf t).length := (bytesOf_len t).symm
  rw [e, List.take_left, List.drop_left]
theorem rdS_cut (t : ByteArray) (h : t.size ≤ 200) (r : Nat) (hr : r < (wT t).length) : (rdS 200 ((wT t).take r)).2.2 = 3 := by
  unfold rdS wT
  by_cases hrv : r < (vb (zz (t.size : Int))).length
  · rw [take_front _ _ _ hrv, rdB_cut _ (sizeOk t h) _ _ r hrv]
    rfl
  · rw [take_behind _ _ _ (by omega), rdB_num _ (sizeOk t h) 0 200 (by omega) (by omega)]
    unfold wT at hr
    rw [List.length_append, bytesOf_len] at hr
    simp only [ne_eq, not_true_eq_false, if_false, List.drop_left]
    rw [if_pos (by rw [List.length_take, bytesOf_len]; omega)]
theorem drop_bytes {L : List Nat} (h : Bytes L) (k : Nat) : Bytes (L.drop k) := fun b hb => h b (List.mem_of_mem_drop hb)
theorem rdS_rest (most : Int) (L : List Nat) : ∃ k, (rdS most L).2.1 = L.drop k := by
  unfold rdS
  simp only
  split
  · exact ⟨_, rfl⟩
  · split
    · exact ⟨_, rfl⟩
    · exact ⟨_, by rw [List.drop_drop]⟩
/-- the next text, whole -/
theorem str_whole (g : Nat) (t : ByteArray) (ht : t.size ≤ 200) (R : List Nat) (hR : Bytes R) (hl : (wT t ++ R).length ≤ 1000000) (w : World) (hb : Hid (Box w g (wT t ++ R) 0)) :
    Calls Tryd.prog 56 #[.pointer (some ⟨g, 0, none⟩), .int .i64 200] w fun e w' => e = .returned (.string t) ∧ Hid (Box w' g R 0) ∧ Hid (Below g w w') :=
  (inStr_any g _ 200 hl (bytes_append (bytes_wT t) hR) w hb).mono fun e w' ⟨h1, h2, h3⟩ => by
    rw [rdS_text t ht] at h1 h2
    simp only [sv_bytesOf] at h1
    exact ⟨h1, Lib.hid h2, Lib.hid h3⟩
/-- the next text, of a short row -/
theorem str_short (g : Nat) (t : ByteArray) (ht : t.size ≤ 200) (L R : List Nat) (err : Int) (hR : Bytes R) (hL : Bytes L) (hl : L.length ≤ 1000000) (hS : St L err (wT t ++ R)) (w : World) (hb : Hid (Box w g L err)) :
    Calls Tryd.prog 56 #[.pointer (some ⟨g, 0, none⟩), .int .i64 200] w fun e w' => ∃ s' L' err', e = .returned (.string s') ∧ Hid (Box w' g L' err') ∧ Hid (St L' err' R ∧ Bytes L' ∧ L'.length ≤ 1000000) ∧ Hid (Below g w w') := by
  rcases hS with rfl | ⟨rfl, r, rfl, hr⟩
  · exact (inStr_err g L 3 _ (by decide) w hb).mono fun e w' ⟨h1, h2⟩ => by
      subst h2
      exact ⟨_, L, 3, h1, hb, Lib.hid ⟨.inl rfl, hL, hl⟩, Lib.hid (Below.refl _ _)⟩
  · refine (inStr_any g _ 200 hl hL w hb).mono fun e w' ⟨h1, h2, h3⟩ => ?_
    obtain ⟨k, hk⟩ := rdS_rest 200 ((wT t ++ R).take r)
    by_cases hrv : r < (wT t).length
    · have h4 : (rdS 200 ((wT t ++ R).take r)).2.2 = 3 := by rw [take_front _ _ _ hrv]; exact rdS_cut t ht r hrv
      refine ⟨_, _, _, h1, Lib.hid h2, Lib.hid ⟨.inl h4, ?_, ?_⟩, Lib.hid h3⟩
      · rw [hk]; exact drop_bytes hL k
      · rw [hk, List.length_drop]; omega
    · rw [take_behind _ _ _ (by omega)] at hL hl h1 h2
      rw [rdS_text t ht] at h1 h2
      rw [List.length_append] at hr hl
      exact ⟨_, R.take (r - (wT t).length), _, h1, Lib.hid h2, Lib.hid ⟨.inr ⟨rfl, r - (wT t).length, rfl, by omega⟩, bytes_take hR _, by omega⟩, Lib.hid h3⟩
/-- the end, whole and short -/
theorem end_whole (g : Nat) (w : World) (hb : Hid (Box w g [] 0)) : Calls Tryd.prog 35 #[.pointer (some ⟨g, 0, none⟩)] w fun e w' => e = .returned (.int .i64 0) ∧ Hid (Below g w w') :=
  (end_any g [] 0 w hb).mono fun e w' ⟨h1, _, h3⟩ => ⟨h1, Lib.hid h3⟩
theorem end_short (g : Nat) (L : List Nat) (err : Int) (hS : St L err []) (w : World) (hb : Hid (Box w g L err)) : Calls Tryd.prog 35 #[.pointer (some ⟨g, 0, none⟩)] w fun e w' => e = .returned (.int .i64 3) ∧ Hid (Below g w w') := by
  rcases hS with rfl | ⟨_, r, _, hr⟩
  · exact (end_any g L 3 w hb).mono fun e w' ⟨h1, _, h3⟩ => ⟨by rw [h1]; unfold endE; rw [if_neg (by omega)], Lib.hid h3⟩
  · exact absurd hr (by simp)

/-- the world is as it was, but for the blocks of S and for new ones -/
structure Only (S : Nat → Prop) (w w' : World) : Prop where
  os : w'.os = w.os
  tape : w'.tape = w.tape
  output : w'.output = w.output
  size : w.heap.size ≤ w'.heap.size
  block : ∀ k, k < w.heap.size → ¬ S k → w'.heap[k]? = w.heap[k]?
theorem Only.refl (S : Nat → Prop) (w : World) : Only S w w := ⟨rfl, rfl, rfl, Nat.le_refl _, fun _ _ _ => rfl⟩
theorem Only.trans {S : Nat → Prop} {a b c : World} (h : Only S a b) (k : Only S b c) : Only S a c :=
  ⟨k.os.trans h.os, k.tape.trans h.tape, k.output.trans h.output, Nat.le_trans h.size k.size, fun i hi hs => (k.block i (Nat.lt_of_lt_of_le hi h.size) hs).trans (h.block i hi hs)⟩
theorem Only.mono {S S' : Nat → Prop} {w w' : World} (h : Only S w w') (hs : ∀ k, k < w.heap.size → S k → S' k) : Only S' w w' := ⟨h.os, h.tape, h.output, h.size, fun k hk hn => h.block k hk fun x => hn (hs k hk x)⟩
theorem Only.below {S : Nat → Prop} {w w' : World} {B : Nat} (h : Only S w w') (hs : ∀ k, S k → B ≤ k) (hB : B ≤ w.heap.size) : Below B w w' := ⟨h.os, h.tape, h.output, h.size, fun k hk => h.block k (by omega) fun x => by have := hs k x; omega⟩
theorem Only.of_below {S : Nat → Prop} {w w' : World} (h : Below w.heap.size w w') : Only S w w' := ⟨h.os, h.tape, h.output, h.size, fun k hk _ => h.block k hk⟩
theorem Only.alloc {S : Nat → Prop} {a w : World} (h : Only S a w) (o : Obj) : Only S a (w.alloc o) :=
  h.trans ⟨rfl, rfl, rfl, by simp, fun _ hk _ => Below.heap_alloc _ _ _ hk⟩
theorem Only.drew {S : Nat → Prop} {a w : World} (h : Only S a w) : Only S a w.drew := ⟨h.os, h.tape, h.output, h.size, h.block⟩
theorem Only.setCell {S : Nat → Prop} {a w : World} (h : Only S a w) {p : Addr} (hp : S p.block) (u : Value) : Only S a (w.setCell p u) :=
  h.trans ⟨rfl, rfl, rfl, by simp [World.setCell], fun _ _ hn => Below.heap_setCell _ _ _ _ fun e => hn (e ▸ hp)⟩
theorem only_set {a w : World} {g : Nat} (h : Only (· = g) a w) (i : Nat) (u : Value) : Only (· = g) a (w.setCell ⟨g, i, none⟩ u) := h.setCell (p := ⟨g, i, none⟩) rfl u

set_option maxRecDepth 20000 in
set_option maxHeartbeats 1500000 in
theorem inNum_only (g : Nat) (L : List Nat) (least most : Int) (hn : L.length ≤ 1000000) (hB : ∀ b ∈ L, b < 256) (w : World) (hb : Hid (Box w g L 0)) :
    Calls Tryd.prog 55 #[.pointer (some ⟨g, 0, none⟩), .int .i64 least, .int .i64 most] w fun e w' => e = .returned (.int .i64 (rdB least most L).1) ∧ Box w' g (L.drop (rdB least most L).2.1) (rdB least most L).2.2 ∧ Only (· = g) w w' := by
  obtain ⟨hh, oo, cap, hg, hcap, hne, hat⟩ := hb.out
  have hc0 := box_cell0 hg
  have hc1 := box_cell1 hg
  have hf0 := box_free (i := 0) hg
  have hf1 := box_free (i := 1) hg
  have HG := Lib.hid (fun _ : True => hg)
  have HF := Lib.hid (first_any hh oo cap L hn hB w (Lib.hid hat))
  have HA := Lib.hid hat
  clear hg hat
  obtain ⟨n, sz, er, hr⟩ : ∃ n sz er, rd 0 0 L = (n, sz, er) := ⟨_, _, _, rfl⟩
  have hsz : sz ≤ L.length := by have := rd_size L 0 0; rw [hr] at this; have h2 : sz ≤ 0 + L.length := this; omega
  have HR := Lib.hid (fun _ : True => hr)
  have HE : Hid (True → er ≠ 0 → n = 0 ∧ sz = 0) := Lib.hid fun _ he => by have := rd_err L 0 0; rw [hr] at this; exact this he
  rw [hr] at HF
  clear hr
  by_cases he : er = 0
  · subst he
    by_cases hlo : n < least ∨ most < n
    · have hR : Hid (True → rdB least most L = (0, 0, 4)) := Lib.hid fun _ => by unfold rdB; rw [HR.out trivial]; exact if_pos ⟨rfl, hlo⟩
      rcases hlo with hlo | hlo
      all_goals
        go_enter Tryd.func55, Tryd.ntmps55
        go_wp2_with (first
          | (go_at_call 59; refine (err_any g L 0 _ hb).mono ?_; rintro e w' ⟨rfl, rfl⟩)
          | (go_at_call 69; refine HF.out.mono ?_; rintro e w' ⟨rfl, rfl⟩; unfold rdV))
        all_goals
          go_ret
          rw [hR.out trivial]
          exact ⟨rfl, ⟨hh, oo, cap, box_set1 (HG.out trivial) _, hcap, hne, at_set HA.out _ _ hne _⟩, only_set (Only.refl _ _) _ _⟩
    · have hR : Hid (True → rdB least most L = (n, sz, 0)) := Lib.hid fun _ => by unfold rdB; rw [HR.out trivial]; exact if_neg fun h => hlo h.2
      have hlo1 : least ≤ n := by omega
      have hlo2 : n ≤ most := by omega
      clear hlo
      by_cases hcs : cap = sz
      · subst hcs
        go_enter Tryd.func55, Tryd.ntmps55
        go_wp2_with (first
          | (go_at_call 59; refine (err_any g L 0 _ hb).mono ?_; rintro e w' ⟨rfl, rfl⟩)
          | (go_at_call 69; refine HF.out.mono ?_; rintro e w' ⟨rfl, rfl⟩; unfold rdV))
        all_goals
          go_ret
          rw [hR.out trivial]
          show _ = _ ∧ Box _ g (L.drop cap) 0 ∧ _
          refine ⟨rfl, ⟨hh, oo, cap - cap, ?_, by rw [List.length_drop]; omega, hne, at_nil (by rw [List.length_drop]; omega)⟩, only_set (Only.refl _ _) _ _⟩
          rw [List.length_drop, show L.length - cap = 0 by omega, Nat.sub_self]
          exact box_set0 (HG.out trivial) _
      · go_enter Tryd.func55, Tryd.ntmps55
        go_wp2_with (first
          | (go_at_call 59; refine (err_any g L 0 _ hb).mono ?_; rintro e w' ⟨rfl, rfl⟩)
          | (go_at_call 69; refine HF.out.mono ?_; rintro e w' ⟨rfl, rfl⟩; unfold rdV))
        all_goals
          go_ret
          rw [hR.out trivial]
          show _ = _ ∧ Box _ g (L.drop sz) 0 ∧ _
          refine ⟨rfl, ⟨hh, oo + sz, cap - sz, ?_, by rw [List.length_drop]; omega, hne, at_set (at_drop HA.out sz) _ _ hne _⟩, only_set (Only.refl _ _) _ _⟩
          rw [List.length_drop]
          exact box_set0 (HG.out trivial) _
  · have hR : Hid (True → rdB least most L = (0, 0, er)) := Lib.hid fun _ => by
      unfold rdB; rw [HR.out trivial, if_neg fun h => he h.1]
      obtain ⟨e1, e2⟩ := HE.out trivial he
      rw [e1, e2]
    go_enter Tryd.func55, Tryd.ntmps55
    go_wp2_with (first
      | (go_at_call 59; refine (err_any g L 0 _ hb).mono ?_; rintro e w' ⟨rfl, rfl⟩)
      | (go_at_call 69; refine HF.out.mono ?_; rintro e w' ⟨rfl, rfl⟩; unfold rdV))
    all_goals
      go_ret
      rw [hR.out trivial]
      exact ⟨rfl, ⟨hh, oo, cap, box_set1 (HG.out trivial) _, hcap, hne, at_set HA.out _ _ hne _⟩, only_set (Only.refl _ _) _ _⟩
set_option maxRecDepth 20000 in
theorem fail_only (g : Nat) (L : List Nat) (err e0 : Int) (w : World) (hb : Hid (Box w g L err)) :
    Calls Tryd.prog 54 #[.pointer (some ⟨g, 0, none⟩), .int .i64 e0] w fun e w' => e = .returned (.tuple #[]) ∧ Box w' g L (if err = 0 then e0 else err) ∧ Only (· = g) w w' := by
  obtain ⟨hc, hf⟩ := box_facts hb.out
  have HE := Lib.hid (err_any g L err w hb)
  by_cases h0 : err = 0
  · subst h0
    go_enter Tryd.func54, Tryd.ntmps54
    go_wp2_with fail
    refine HE.out.mono ?_
    rintro e w' ⟨rfl, rfl⟩
    go_wp2_with fail
    go_end0
    exact ⟨rfl, box_fail hb.out e0, only_set (Only.refl _ _) _ _⟩
  · go_enter Tryd.func54, Tryd.ntmps54
    go_wp2_with fail
    refine HE.out.mono ?_
    rintro e w' ⟨rfl, rfl⟩
    go_wp2_with fail
    go_end0
    exact ⟨rfl, hb.out, Only.refl _ _⟩
set_option maxRecDepth 20000 in
theorem end_only (g : Nat) (L : List Nat) (err : Int) (w : World) (hb : Hid (Box w g L err)) :
    Calls Tryd.prog 35 #[.pointer (some ⟨g, 0, none⟩)] w fun e w' => e = .returned (.int .i64 (endE L err)) ∧ Box w' g L (endE L err) ∧ Only (· = g) w w' := by
  have HL := Lib.hid (left_any g L err w hb)
  have HF := Lib.hid (fail_only g L err 2 w hb)
  have HE := Lib.hid (fun W h => err_any g L (if err = 0 then 2 else err) W h)
  have HE2 := Lib.hid (err_any g L err w hb)
  by_cases h0 : 0 < L.length
  · have hv : endE L err = if err = 0 then 2 else err := by
      unfold endE
      by_cases h : err = 0
      · rw [if_pos ⟨h0, h⟩, if_pos h]
      · rw [if_neg fun x => h x.2, if_neg h]
    rw [hv]
    generalize (if err = 0 then 2 else err) = er at *
    clear hv
    generalize L.length = n at HL h0
    go_enter Tryd.func35, Tryd.ntmps35
    go_wp2_with fail
    refine HL.out.mono ?_
    rintro e w' ⟨rfl, rfl⟩
    go_wp2_with fail
    refine HF.out.mono ?_
    rintro e w2 ⟨rfl, hb2', hl2'⟩
    have hb2 := Lib.hid hb2'
    have hl2 := Lib.hid hl2'
    clear hb2' hl2'
    go_wp2_with fail
    refine (HE.out _ hb2).mono ?_
    rintro e w' ⟨rfl, rfl⟩
    go_wp2_with fail
    go_ret
    exact ⟨rfl, hb2.out, hl2.out⟩
  · have hv : endE L err = err := if_neg fun h => h0 h.1
    rw [hv]
    clear hv
    have h00 : L.length = 0 := by omega
    rw [h00] at HL
    clear h00 h0
    go_enter Tryd.func35, Tryd.ntmps35
    go_wp2_with fail
    refine HL.out.mono ?_
    rintro e w' ⟨rfl, rfl⟩
    go_wp2_with fail
    refine HE2.out.mono ?_
    rintro e w' ⟨rfl, rfl⟩
    go_wp2_with fail
    go_ret
    exact ⟨rfl, hb.out, Only.refl _ _⟩
set_option maxRecDepth 20000 in
set_option maxHeartbeats 2000000 in
theorem inStr_only (g : Nat) (L : List Nat) (most : Int) (hn : L.length ≤ 1000000) (hB : ∀ b ∈ L, b < 256) (w : World) (hb : Hid (Box w g L 0)) :
    Calls Tryd.prog 56 #[.pointer (some ⟨g, 0, none⟩), .int .i64 most] w fun e w' => e = .returned (.string (sv (rdS most L).1)) ∧ Box w' g (rdS most L).2.1 (rdS most L).2.2 ∧ Only (· = g) w w' := by
  have HN := Lib.hid (inNum_only g L 0 most hn hB w hb)
  have hge := rdB_ge most L
  obtain ⟨n, sz, er, hr⟩ : ∃ n sz er, rdB 0 most L = (n, sz, er) := ⟨_, _, _, rfl⟩
  have hS : rdS most L = if er ≠ 0 then ([], L.drop sz, er) else if ((L.drop sz).length : Int) < n then ([], L.drop sz, 3) else ((L.drop sz).take n.toNat, (L.drop sz).drop n.toNat, 0) := by unfold rdS; rw [hr]
  rw [hr] at HN hge
  have hge' : er = 0 → 0 ≤ n := hge
  have hTl : (L.drop sz).length ≤ 1000000 := by rw [List.length_drop]; omega
  rw [hS]
  obtain ⟨T, hT⟩ : ∃ T, L.drop sz = T := ⟨_, rfl⟩
  have HN2 : Hid (Calls Tryd.prog 55 #[.pointer (some ⟨g, 0, none⟩), .int .i64 0, .int .i64 most] w fun e w' => e = .returned (.int .i64 n) ∧ Hid (Box w' g T er) ∧ Hid (Only (· = g) w w')) :=
    Lib.hid (HN.out.mono fun e w' ⟨h1, h2, h3⟩ => ⟨h1, Lib.hid (by rw [← hT]; exact h2), Lib.hid h3⟩)
  rw [hT] at hTl ⊢
  clear HN hge hr hS hT hB hn
  by_cases he : er = 0
  · subst he
    have hn0 := hge' rfl
    clear hge'
    obtain ⟨k, rfl⟩ := Int.eq_ofNat_of_zero_le hn0
    rw [if_neg (by simp)]
    by_cases hk : (T.length : Int) < (k : Int)
    · rw [if_pos hk]
      have hk' : T.length < k := by omega
      go_enter Tryd.func56, Tryd.ntmps56
      go_wp2_with fail
      refine HN2.out.mono ?_
      rintro e w1 ⟨rfl, hb1, hl1⟩
      obtain ⟨hc1, hf1⟩ := box_facts hb1.out
      obtain ⟨hh, oo, cap, hg, _, _, _⟩ := hb1.out
      have hc0 := box_cell0 hg
      clear hg
      go_wp2_with fail
      refine (err_any g T 0 _ hb1).mono ?_
      rintro e w' ⟨rfl, rfl⟩
      go_wp2_with fail
      go_ret
      exact ⟨rfl, box_fail hb1.out 3, hl1.out.trans (only_set (Only.refl _ _) _ _)⟩
    · rw [if_neg hk, Int.toNat_natCast]
      have hk' : k ≤ T.length := by omega
      go_enter Tryd.func56, Tryd.ntmps56
      go_wp2_with fail
      refine HN2.out.mono ?_
      rintro e w1 ⟨rfl, hb1, hl1⟩
      obtain ⟨hc1, hf1⟩ := box_facts hb1.out
      obtain ⟨hh, oo, cap, hg, hcap, hne, hat⟩ := hb1.out
      have hc0 := box_cell0 hg
      have hf0 := box_free (i := 0) hg
      have HG := Lib.hid (fun _ : True => hg)
      have HA := Lib.hid hat
      have hq : (convert 29 9 (.slice (some ⟨hh, oo, none⟩) k cap)).run Tryd.prog w1 = .ok (.string (sv (T.take k))) w1 := at_reads hat k hk' w1 (Below.refl _ _)
      clear hg hat
      by_cases hcs : cap = k
      · subst hcs
        go_wp2_with fail
        refine (err_any g T 0 _ hb1).mono ?_
        rintro e w' ⟨rfl, rfl⟩
        go_wp2_with fail
        go_ret
        refine ⟨rfl, ⟨hh, oo, cap - cap, ?_, by rw [List.length_drop]; omega, hne, at_nil (by rw [List.length_drop]; omega)⟩, hl1.out.trans (only_set (Only.refl _ _) _ _)⟩
        rw [List.length_drop, show T.length - cap = 0 by omega, Nat.sub_self]
        exact box_set0 (HG.out trivial) _
      · go_wp2_with fail
        refine (err_any g T 0 _ hb1).mono ?_
        rintro e w' ⟨rfl, rfl⟩
        go_wp2_with fail
        go_ret
        refine ⟨rfl, ⟨hh, oo + k, cap - k, ?_, by rw [List.length_drop]; omega, hne, at_set (at_drop HA.out k) _ _ hne _⟩, hl1.out.trans (only_set (Only.refl _ _) _ _)⟩
        rw [List.length_drop]
        exact box_set0 (HG.out trivial) _
  · rw [if_pos he]
    go_enter Tryd.func56, Tryd.ntmps56
    go_wp2_with fail
    refine HN2.out.mono ?_
    rintro e w1 ⟨rfl, hb1, hl1⟩
    go_wp2_with fail
    refine (err_any g T er _ hb1).mono ?_
    rintro e w' ⟨rfl, rfl⟩
    go_wp2_with fail
    go_ret
    exact ⟨rfl, hb1.out, hl1.out⟩

set_option maxRecDepth 20000 in
theorem err_nil (w : World) : Calls Tryd.prog 59 #[.pointer none] w fun e w' => e = .returned (.int .i64 1) ∧ w = w' := by
  go_enter Tryd.func59, Tryd.ntmps59
  go_wp2
  go_ret
  exact ⟨rfl, rfl⟩
set_option maxRecDepth 20000 in
theorem left_nil (w : World) : Calls Tryd.prog 58 #[.pointer none] w fun e w' => e = .returned (.int .i64 0) ∧ w = w' := by
  go_enter Tryd.func58, Tryd.ntmps58
  go_wp2
  go_ret
  exact ⟨rfl, rfl⟩
set_option maxRecDepth 20000 in
theorem fail_nil (e0 : Int) (w : World) : Calls Tryd.prog 54 #[.pointer none, .int .i64 e0] w fun e w' => e = .returned (.tuple #[]) ∧ w = w' := by
  go_enter Tryd.func54, Tryd.ntmps54
  go_wp2_with fail
  refine (err_nil w).mono ?_
  rintro e w' ⟨rfl, rfl⟩
  go_wp2_with fail
  go_end0
  exact ⟨rfl, rfl⟩
set_option maxRecDepth 20000 in
theorem num_nil (a b : Int) (w : World) : Calls Tryd.prog 55 #[.pointer none, .int .i64 a, .int .i64 b] w fun e w' => e = .returned (.int .i64 0) ∧ w = w' := by
  go_enter Tryd.func55, Tryd.ntmps55
  go_wp2_with fail
  refine (err_nil w).mono ?_
  rintro e w' ⟨rfl, rfl⟩
  go_wp2_with fail
  go_ret
  exact ⟨rfl, rfl⟩
set_option maxRecDepth 20000 in
theorem end_nil (w : World) : Calls Tryd.prog 35 #[.pointer none] w fun e w' => e = .returned (.int .i64 1) ∧ w = w' := by
  go_enter Tryd.func35, Tryd.ntmps35
  go_wp2_with fail
  refine (left_nil w).mono ?_
  rintro e w' ⟨rfl, rfl⟩
  go_wp2_with fail
  refine (err_nil w).mono ?_
  rintro e w' ⟨rfl, rfl⟩
  go_wp2_with fail
  go_ret
  exact ⟨rfl, rfl⟩
set_option maxRecDepth 20000 in
theorem str_nil (a : Int) (w : World) : Calls Tryd.prog 56 #[.pointer none, .int .i64 a] w fun e w' => e = .returned (.string { data := #[] }) ∧ w = w' := by
  go_enter Tryd.func56, Tryd.ntmps56
  go_wp2_with fail
  refine (num_nil 0 a w).mono ?_
  rintro e w' ⟨rfl, rfl⟩
  go_wp2_with fail
  refine (err_nil w).mono ?_
  rintro e w' ⟨rfl, rfl⟩
  go_wp2_with fail
  go_ret
  exact ⟨rfl, rfl⟩

/-- the document's reader in memory: what is left, its first error -/
def RBox (w : World) (g : Nat) (s : ByteArray) (err : Int) : Prop := w.heap[g]? = some (.cells #[.string s, .int .i64 err] 62 (0, 0))
theorem bytesOf_drop (s : ByteArray) (k : Nat) : bytesOf (s.extract k s.size) = (bytesOf s).drop k := by
  unfold bytesOf
  rw [ByteArray.data_extract, Array.toList_extract, List.extract_eq_take_drop, List.map_take, List.map_drop, List.take_of_length_le]
  simp
theorem bytesOf_take (s : ByteArray) (k : Nat) : bytesOf (s.extract 0 k) = (bytesOf s).take k := by
  unfold bytesOf
  rw [ByteArray.data_extract, Array.toList_extract, List.extract_eq_take_drop, List.map_take, List.drop_zero, Nat.sub_zero]
theorem bytesOf_get (s : ByteArray) (k : Nat) (h : k < s.size) : (bytesOf s).getD k 0 = s[k].toNat := by
  unfold bytesOf
  have h2 : k < s.data.toList.length := by simpa using h
  simp [List.getD, h]
  rfl
theorem extract_all (s : ByteArray) : s.extract 0 s.size = s := by simp
theorem uz_odd (y : Nat) (h : y % 2 = 1) : uz y = -1 - ((y / 2 : Nat) : Int) := if_pos h
theorem uz_even (y : Nat) (h : ¬ y % 2 = 1) : uz y = ((y / 2 : Nat) : Int) := if_neg h
theorem rdB_bad {L : List Nat} {er : Int} (least most : Int) (h : rd 0 0 L = (0, 0, er)) (he : er ≠ 0) : rdB least most L = (0, 0, er) := by
  unfold rdB
  rw [h]
  exact if_neg fun q => he q.1
theorem rdB_out {L : List Nat} {n : Int} {z : Nat} (least most : Int) (h : rd 0 0 L = (n, z, 0)) (hn : n < least ∨ most < n) : rdB least most L = (0, 0, 4) := by
  unfold rdB
  rw [h]
  exact if_pos ⟨rfl, hn⟩
theorem rdB_in {L : List Nat} {n : Int} {z : Nat} (least most : Int) (h : rd 0 0 L = (n, z, 0)) (hn : ¬ (n < least ∨ most < n)) : rdB least most L = (n, z, 0) := by
  unfold rdB
  rw [h]
  exact if_neg fun q => hn q.2
theorem add_step (x k c : Nat) (hk : k ≤ 9) (hx : x < 2 ^ (7 * k)) (h9 : k = 9 → c ≤ 1) : IntKind.u64.wrap ((x : Int) + IntKind.u64.wrap ((c : Int) % 128 * 2 ^ (7 * k))) = ((x + c % 128 * 2 ^ (7 * k) : Nat) : Int) := by
  have h := step_lt x k c hk hx h9
  have e1 : ((c : Int) % 128 * 2 ^ (7 * k)) = ((c % 128 * 2 ^ (7 * k) : Nat) : Int) := by push_cast; rfl
  rw [e1, IntKind.wrap_u64, IntKind.wrap_u64]
  generalize c % 128 * 2 ^ (7 * k) = z at *
  omega
theorem refInNum_err (g : Nat) (s : ByteArray) (err least most : Int) (he : err ≠ 0) (w : World) (hb : Hid (RBox w g s err)) :
    Calls Tryd.prog 52 #[.pointer (some ⟨g, 0, none⟩), .int .i64 least, .int .i64 most] w fun e w' => e = .returned (.int .i64 0) ∧ w = w' := by
  have hc1 := box_cell1 hb.out
  go_enter Tryd.func52, Tryd.ntmps52
  go_wp2
  go_ret
  exact ⟨rfl, rfl⟩
set_option maxRecDepth 20000 in
set_option maxHeartbeats 2000000 in
theorem refInNum_any (g : Nat) (s : ByteArray) (least most : Int) (hs : s.size ≤ 1000000) (w : World) (hb : Hid (RBox w g s 0)) :
    Calls Tryd.prog 52 #[.pointer (some ⟨g, 0, none⟩), .int .i64 least, .int .i64 most] w fun e w' => e = .returned (.int .i64 (rdB least most (bytesOf s)).1) ∧ RBox w' g (s.extract (rdB least most (bytesOf s)).2.1 s.size) (rdB least most (bytesOf s)).2.2 ∧ Only (· = g) w w' := by
  have hc0 := box_cell0 hb.out
  have hc1 := box_cell1 hb.out
  have hf0 := box_free (i := 0) hb.out
  have hf1 := box_free (i := 1) hb.out
  have HG := Lib.hid (fun _ : True => (hb.out : w.heap[g]? = _))
  have HLen := Lib.hid (fun _ : True => bytesOf_len s)
  have HGet := Lib.hid (fun k h => bytesOf_get s k h)
  obtain ⟨R, hR⟩ : ∃ R, rdB least most (bytesOf s) = R := ⟨_, rfl⟩
  have HB := Lib.hid (fun (er : Int) (h : rd 0 0 (bytesOf s) = (0, 0, er)) (he : er ≠ 0) => (hR.symm.trans (rdB_bad least most h he) : R = (0, 0, er)))
  have HO := Lib.hid (fun (n : Int) (z : Nat) (h : rd 0 0 (bytesOf s) = (n, z, 0)) (he : n < least ∨ most < n) => (hR.symm.trans (rdB_out least most h he) : R = (0, 0, 4)))
  have HI := Lib.hid (fun (n : Int) (z : Nat) (h : rd 0 0 (bytesOf s) = (n, z, 0)) (he : ¬ (n < least ∨ most < n)) => (hR.symm.trans (rdB_in least most h he) : R = (n, z, 0)))
  have HBad : Hid (∀ er : Int, R = (0, 0, er) → Ending.returned (.int .i64 0) = .returned (.int .i64 R.1) ∧ RBox (w.setCell ⟨g, 1, none⟩ (.int .i64 er)) g (s.extract R.2.1 s.size) R.2.2 ∧ Only (· = g) w (w.setCell ⟨g, 1, none⟩ (.int .i64 er))) := Lib.hid fun er h => by
    subst h
    exact ⟨rfl, by show RBox _ g (s.extract 0 s.size) er; rw [extract_all]; exact box_set1 (HG.out trivial) _, only_set (Only.refl _ _) _ _⟩
  rw [hR]
  clear hR
  go_enter Tryd.func52, Tryd.ntmps52
  go_wp2_with fail
  go_loop [7, 8] (fun u i => ∃ x k : Nat, u = .int .u64 (x : Int) ∧ i = .int .i64 (k : Int) ∧ k ≤ 9 ∧ k ≤ s.size ∧ Hid (True → x < 2 ^ (7 * k)) ∧ Hid (True → rd k x ((bytesOf s).drop k) = rd 0 0 (bytesOf s))) (fun _ i => 10 - (intOf i).toNat)
  case atStart => exact ⟨0, 0, rfl, rfl, by omega, by omega, Lib.hid fun _ => by decide, Lib.hid fun _ => by rw [List.drop_zero]⟩
  case round =>
    obtain ⟨x, k, rfl, rfl, hk9, hkn, hx, hr⟩ := hrel
    have hk10 : (k : Int) < 10 := by omega
    by_cases hk : k < s.size
    · obtain ⟨c, hcc, hc256⟩ : ∃ c, s[k].toNat = c ∧ c < 256 := ⟨_, rfl, s[k].toNat_lt⟩
      have HC := Lib.hid (fun _ : True => hcc)
      have hr2 : Hid (True → (if k = 9 ∧ 1 < c then (0, 0, 2) else if 128 ≤ c then rd (k + 1) (x + c % 128 * 2 ^ (7 * k)) ((bytesOf s).drop (k + 1)) else if c = 0 ∧ 0 < k then (0, 0, 2) else (uz (x + c % 128 * 2 ^ (7 * k)), k + 1, 0)) = rd 0 0 (bytesOf s)) :=
        Lib.hid fun _ => by have := hr.out trivial; rw [drop_get _ k (by rw [HLen.out trivial]; exact hk), HGet.out k hk, HC.out trivial] at this; exact this
      clear hr HC
      by_cases hA : k = 9 ∧ 1 < c
      · obtain ⟨hA1, hA2⟩ := hA
        subst hA1
        have hr3 := HBad.out 2 (HB.out 2 (by have := hr2.out trivial; rw [if_pos ⟨rfl, hA2⟩] at this; exact this.symm) (by decide))
        have hr3 := Lib.hid hr3
        clear hr2
        go_wp2_with fail
        go_ret
        exact hr3.out
      · have HA : Hid (True → k = 9 → c ≤ 1) := Lib.hid fun _ h => by omega
        have hadd := add_step x k c hk9 (hx.out trivial) (HA.out trivial)
        have hlt : x + c % 128 * 2 ^ (7 * k) < 18446744073709551616 := step_lt x k c hk9 (hx.out trivial) (HA.out trivial)
        have hlt2 : Hid (True → x + c % 128 * 2 ^ (7 * k) < 2 ^ (7 * (k + 1))) := Lib.hid fun _ => step_lt2 x k c (hx.out trivial)
        have hr3 := hr2.out trivial
        rw [if_neg hA] at hr3
        clear hr2
        generalize x + c % 128 * 2 ^ (7 * k) = y at *
        have HR := Lib.hid (fun _ : True => hr3)
        clear hr3
        obtain ⟨bb, hq, hb9⟩ : ∃ bb, ((k : Int) == 9) = bb ∧ (bb = true → ¬ 1 < c) := ⟨_, rfl, fun h => by have := HA.out trivial; have h2 : k = 9 := (by simp at h; omega); omega⟩
        cases bb
        case' true => have hc1 : ¬ 1 < c := hb9 rfl
        all_goals
          clear hb9
          by_cases hC : 128 ≤ c
          · have hk8 : k ≤ 8 := by
              have := HA.out trivial
              omega
            have hr4 : Hid (True → rd (k + 1) y ((bytesOf s).drop (k + 1)) = rd 0 0 (bytesOf s)) := Lib.hid fun _ => by have := HR.out trivial; rwa [if_pos hC] at this
            clear HR hA
            try (exfalso; omega)
            all_goals
              go_wp2_with fail
              go_round
              case rel => exact ⟨y, k + 1, rfl, by go_num, by omega, by omega, hlt2, hr4⟩
              case measure => simp [intOf]; omega
          · by_cases hD : c = 0 ∧ 0 < k
            · obtain ⟨hD1, hD2⟩ := hD
              have hr3 := Lib.hid (HBad.out 2 (HB.out 2 (by have := HR.out trivial; rw [if_neg hC, if_pos ⟨hD1, hD2⟩] at this; exact this.symm) (by decide)))
              subst hD1
              clear HR hA
              go_wp2_with fail
              all_goals
                go_ret
                exact hr3.out
            · have HR3 : Hid ((uz y, k + 1, 0) = rd 0 0 (bytesOf s)) := Lib.hid (by have := HR.out trivial; rwa [if_neg hC, if_neg hD] at this)
              clear HR
              obtain ⟨m, hm, hml⟩ : ∃ m, y / 2 = m ∧ m < 9223372036854775808 := ⟨_, rfl, by omega⟩
              have hdiv : (y : Int) / 2 = (m : Int) := by omega
              have hk1 : IntKind.i64.wrap ((k : Int) + 1) = ((k + 1 : Nat) : Int) := by rw [IntKind.wrap_i64]; omega
              have hk2 : (0 : Int) ≤ ((k + 1 : Nat) : Int) := by omega
              have hk3 : ((k + 1 : Nat) : Int) ≤ (s.size : Int) := by omega
              by_cases hkz : 0 < k
              case' pos =>
                have hcz : ¬ c = 0 := fun e => hD ⟨e, hkz⟩
              all_goals
                clear hD hA
                by_cases hp : y % 2 = 1
                · have hmod : (y : Int) % 2 = 1 := by omega
                  have hu : uz y = -1 - (m : Int) := by rw [uz_odd y hp, hm]
                  have HR4 : Hid (rd 0 0 (bytesOf s) = (-1 - (m : Int), k + 1, 0)) := Lib.hid (by have := HR3.out; rw [hu] at this; exact this.symm)
                  clear HR3 hu
                  by_cases hlo : -1 - (m : Int) < least
                  · have hr3 := Lib.hid (HBad.out 4 (HO.out _ _ HR4.out (.inl hlo)))
                    clear HR4
                    go_wp2_with fail
                    all_goals
                      go_ret
                      exact hr3.out
                  · by_cases hhi : most < -1 - (m : Int)
                    · have hr3 := Lib.hid (HBad.out 4 (HO.out _ _ HR4.out (.inr hhi)))
                      clear HR4
                      go_wp2_with fail
                      all_goals
                        go_ret
                        exact hr3.out
                    · have hr3 := Lib.hid (HI.out _ _ HR4.out (by omega))
                      clear HR4
                      go_wp2_with fail
                      all_goals
                        go_ret
                        rw [hr3.out]
                        exact ⟨rfl, box_set0 (HG.out trivial) _, only_set (Only.refl _ _) _ _⟩
                · have hmod : (y : Int) % 2 = 0 := by omega
                  have hu : uz y = (m : Int) := by rw [uz_even y hp, hm]
                  have HR4 : Hid (rd 0 0 (bytesOf s) = ((m : Int), k + 1, 0)) := Lib.hid (by have := HR3.out; rw [hu] at this; exact this.symm)
                  clear HR3 hu
                  by_cases hlo : (m : Int) < least
                  · have hr3 := Lib.hid (HBad.out 4 (HO.out _ _ HR4.out (.inl hlo)))
                    clear HR4
                    go_wp2_with fail
                    all_goals
                      go_ret
                      exact hr3.out
                  · by_cases hhi : most < (m : Int)
                    · have hr3 := Lib.hid (HBad.out 4 (HO.out _ _ HR4.out (.inr hhi)))
                      clear HR4
                      go_wp2_with fail
                      all_goals
                        go_ret
                        exact hr3.out
                    · have hr3 := Lib.hid (HI.out _ _ HR4.out (by omega))
                      clear HR4
                      go_wp2_with fail
                      all_goals
                        go_ret
                        rw [hr3.out]
                        exact ⟨rfl, box_set0 (HG.out trivial) _, only_set (Only.refl _ _) _ _⟩
    · have hr3 := Lib.hid (HBad.out 3 (HB.out 3 (by have := hr.out trivial; rw [List.drop_of_length_le (by rw [HLen.out trivial]; omega)] at this; exact this.symm) (by decide)))
      clear hr
      go_wp2_with fail
      go_ret
      exact hr3.out
set_option maxRecDepth 20000 in
theorem refInStr_err (g : Nat) (s : ByteArray) (err most : Int) (he : err ≠ 0) (w : World) (hb : Hid (RBox w g s err)) :
    Calls Tryd.prog 53 #[.pointer (some ⟨g, 0, none⟩), .int .i64 most] w fun e w' => e = .returned (.string { data := #[] }) ∧ w = w' := by
  have hc1 := box_cell1 hb.out
  have HN := Lib.hid (refInNum_err g s err 0 most he w hb)
  go_enter Tryd.func53, Tryd.ntmps53
  go_wp2_with fail
  refine HN.out.mono ?_
  rintro e w' ⟨rfl, rfl⟩
  go_wp2_with fail
  go_ret
  exact ⟨rfl, rfl⟩
theorem rdB_size (least most : Int) (L : List Nat) : (rdB least most L).2.1 ≤ L.length := by
  unfold rdB
  split
  · exact Nat.zero_le _
  · have := rd_size L 0 0; omega
/-- what is left of a text, and what was read, as texts -/
theorem sv_take (s : ByteArray) (n : Nat) : sv ((bytesOf s).take n) = s.extract 0 n := by rw [← bytesOf_take, sv_bytesOf]
set_option maxRecDepth 20000 in
set_option maxHeartbeats 1000000 in
theorem refInStr_any (g : Nat) (s : ByteArray) (most : Int) (hs : s.size ≤ 1000000) (w : World) (hb : Hid (RBox w g s 0)) :
    Calls Tryd.prog 53 #[.pointer (some ⟨g, 0, none⟩), .int .i64 most] w fun e w' => e = .returned (.string (sv (rdS most (bytesOf s)).1)) ∧ (∃ s', bytesOf s' = (rdS most (bytesOf s)).2.1 ∧ s'.size ≤ s.size ∧ RBox w' g s' (rdS most (bytesOf s)).2.2) ∧ Only (· = g) w w' := by
  have HN := Lib.hid (refInNum_any g s 0 most hs w hb)
  have hge := rdB_ge most (bytesOf s)
  have hsz := rdB_size 0 most (bytesOf s)
  rw [bytesOf_len] at hsz
  obtain ⟨n, sz, er, hr⟩ : ∃ n sz er, rdB 0 most (bytesOf s) = (n, sz, er) := ⟨_, _, _, rfl⟩
  have hS : rdS most (bytesOf s) = if er ≠ 0 then ([], (bytesOf s).drop sz, er) else if (((bytesOf s).drop sz).length : Int) < n then ([], (bytesOf s).drop sz, 3) else (((bytesOf s).drop sz).take n.toNat, ((bytesOf s).drop sz).drop n.toNat, 0) := by unfold rdS; rw [hr]
  rw [hr] at HN hge hsz
  have hge' : er = 0 → 0 ≤ n := hge
  have hsz' : sz ≤ s.size := hsz
  obtain ⟨t, ht⟩ : ∃ t, s.extract sz s.size = t := ⟨_, rfl⟩
  have hts : t.size = s.size - sz := by rw [← ht, ByteArray.size_extract]; omega
  have htb : (bytesOf s).drop sz = bytesOf t := by rw [← ht, bytesOf_drop]
  have hN2 : Hid (Calls Tryd.prog 52 #[.pointer (some ⟨g, 0, none⟩), .int .i64 0, .int .i64 most] w fun e w' => e = .returned (.int .i64 n) ∧ Hid (RBox w' g t er) ∧ Hid (Only (· = g) w w')) :=
    Lib.hid (HN.out.mono fun e w' ⟨h1, h2, h3⟩ => ⟨h1, Lib.hid (by rw [← ht]; exact h2), Lib.hid h3⟩)
  rw [htb, bytesOf_len] at hS
  have hle : t.size ≤ s.size := by omega
  rw [hS]
  clear HN hge hr hS hsz hsz' ht htb hts
  by_cases he : er = 0
  · subst he
    have hn0 := hge' rfl
    clear hge'
    obtain ⟨k, rfl⟩ := Int.eq_ofNat_of_zero_le hn0
    rw [if_neg (by simp)]
    by_cases hk : (t.size : Int) < (k : Int)
    · rw [if_pos hk]
      have hk' : t.size < k := by omega
      go_enter Tryd.func53, Tryd.ntmps53
      go_wp2_with fail
      refine hN2.out.mono ?_
      rintro e w1 ⟨rfl, hb1, hl1⟩
      have hc1 := box_cell1 hb1.out
      have hf1 := box_free (i := 1) hb1.out
      have hc0 := box_cell0 hb1.out
      go_wp2_with fail
      go_ret
      exact ⟨rfl, ⟨t, rfl, hle, box_set1 hb1.out _⟩, hl1.out.trans (only_set (Only.refl _ _) _ _)⟩
    · rw [if_neg hk, Int.toNat_natCast]
      have hk' : k ≤ t.size := by omega
      have HT := Lib.hid (sv_take t k)
      go_enter Tryd.func53, Tryd.ntmps53
      go_wp2_with fail
      refine hN2.out.mono ?_
      rintro e w1 ⟨rfl, hb1, hl1⟩
      have hc1 := box_cell1 hb1.out
      have hc0 := box_cell0 hb1.out
      have hf0 := box_free (i := 0) hb1.out
      go_wp2_with fail
      go_ret
      refine ⟨by rw [HT.out]; rfl, ⟨t.extract k t.size, bytesOf_drop t k, by rw [ByteArray.size_extract]; omega, box_set0 hb1.out _⟩, hl1.out.trans (only_set (Only.refl _ _) _ _)⟩
  · rw [if_pos he]
    go_enter Tryd.func53, Tryd.ntmps53
    go_wp2_with fail
    refine hN2.out.mono ?_
    rintro e w1 ⟨rfl, hb1, hl1⟩
    have hc1 := box_cell1 hb1.out
    go_wp2_with fail
    go_ret
    exact ⟨rfl, ⟨t, rfl, hle, hb1.out⟩, hl1.out⟩
set_option maxRecDepth 20000 in
theorem refInEnd_any (g : Nat) (s : ByteArray) (err : Int) (w : World) (hb : Hid (RBox w g s err)) :
    Calls Tryd.prog 32 #[.pointer (some ⟨g, 0, none⟩)] w fun e w' => e = .returned (.int .i64 (endE (bytesOf s) err)) ∧ RBox w' g s (endE (bytesOf s) err) ∧ Only (· = g) w w' := by
  have hc1 := box_cell1 hb.out
  have hc0 := box_cell0 hb.out
  have hf1 := box_free (i := 1) hb.out
  unfold endE
  rw [bytesOf_len]
  by_cases h0 : err = 0
  · by_cases h1 : 0 < s.size
    · rw [if_pos ⟨h1, h0⟩]
      subst h0
      have hne : (!s.toList.isEmpty) = true := by
        have h2 : s.toList ≠ [] := by
          intro e
          rw [ByteArray.toList_eq] at e
          have : s.size = 0 := by rw [← bytesOf_len]; unfold bytesOf; rw [e]; rfl
          omega
        simpa using h2
      go_enter Tryd.func32, Tryd.ntmps32
      go_wp2_with fail
      go_ret
      exact ⟨rfl, box_set1 hb.out _, only_set (Only.refl _ _) _ _⟩
    · rw [if_neg fun h => h1 h.1]
      subst h0
      have hne : (!s.toList.isEmpty) = false := by
        have h2 : s.toList = [] := by
          rw [ByteArray.toList_eq]
          have h3 : s.size = 0 := by omega
          rw [← bytesOf_len] at h3
          unfold bytesOf at h3
          rw [List.length_map] at h3
          exact List.length_eq_zero_iff.1 h3
        rw [h2]; rfl
      go_enter Tryd.func32, Tryd.ntmps32
      go_wp2_with fail
      go_ret
      exact ⟨rfl, hb.out, Only.refl _ _⟩
  · rw [if_neg fun h => h0 h.2]
    go_enter Tryd.func32, Tryd.ntmps32
    go_wp2_with fail
    go_ret
    exact ⟨rfl, hb.out, Only.refl _ _⟩

set_option linter.unusedVariables false

theorem bytesOf_sv (L : List Nat) (h : ∀ b ∈ L, b < 256) : bytesOf (sv L) = L := by
  unfold bytesOf sv strOfNums
  simp only [List.map_map]
  rw [List.map_congr_left (g := id)]
  · simp
  · intro b hb
    have := h b hb
    simp
    omega
/-- a number read of what is left: it, what is left then, the error -/
def stN (least most : Int) (s : ByteArray) (err : Int) : Int × ByteArray × Int := if err ≠ 0 then (0, s, err) else ((rdB least most (bytesOf s)).1, s.extract (rdB least most (bytesOf s)).2.1 s.size, (rdB least most (bytesOf s)).2.2)
/-- a text -/
def stS (most : Int) (s : ByteArray) (err : Int) : ByteArray × ByteArray × Int := if err ≠ 0 then ({ data := #[] }, s, err) else (sv (rdS most (bytesOf s)).1, sv (rdS most (bytesOf s)).2.1, (rdS most (bytesOf s)).2.2)
theorem stN_size (least most : Int) (s : ByteArray) (err : Int) : (stN least most s err).2.1.size ≤ s.size := by
  unfold stN
  split
  · exact Nat.le_refl _
  · show (s.extract _ _).size ≤ _
    rw [ByteArray.size_extract]; omega
theorem stS_size (most : Int) (s : ByteArray) (err : Int) : (stS most s err).2.1.size ≤ s.size := by
  unfold stS
  split
  · exact Nat.le_refl _
  · show (sv _).size ≤ _
    rw [sv_size]
    obtain ⟨k, hk⟩ := rdS_rest most (bytesOf s)
    rw [hk, List.length_drop, bytesOf_len]; omega
section
variable (g : Nat) (s : ByteArray) (err : Int) (w : World)
theorem inNum_tot (hs : s.size ≤ 3000) (least most : Int) (hb : Hid (Box w g (bytesOf s) err)) :
    Calls Tryd.prog 55 #[.pointer (some ⟨g, 0, none⟩), .int .i64 least, .int .i64 most] w fun e w' => e = .returned (.int .i64 (stN least most s err).1) ∧ Box w' g (bytesOf (stN least most s err).2.1) (stN least most s err).2.2 ∧ Only (· = g) w w' := by
  unfold stN
  by_cases he : err = 0
  · subst he
    refine (inNum_only g (bytesOf s) least most (by rw [bytesOf_len]; omega) (bytes_of s) w hb).mono fun e w' ⟨h1, h2, h3⟩ => ⟨by simpa using h1, ?_, h3⟩
    simp only [ne_eq, not_true_eq_false, if_false]
    rw [bytesOf_drop]
    exact h2
  · simp only [ne_eq, he, not_false_eq_true, if_true]
    refine (inNum_err g (bytesOf s) err least most he w hb).mono fun e w' ⟨h1, h2⟩ => ⟨h1, h2 ▸ hb.out, h2 ▸ Only.refl _ _⟩
theorem refInNum_tot (hs : s.size ≤ 3000) (least most : Int) (hb : Hid (RBox w g s err)) :
    Calls Tryd.prog 52 #[.pointer (some ⟨g, 0, none⟩), .int .i64 least, .int .i64 most] w fun e w' => e = .returned (.int .i64 (stN least most s err).1) ∧ RBox w' g (stN least most s err).2.1 (stN least most s err).2.2 ∧ Only (· = g) w w' := by
  unfold stN
  by_cases he : err = 0
  · subst he
    refine (refInNum_any g s least most (by omega) w hb).mono fun e w' ⟨h1, h2, h3⟩ => ⟨by simpa using h1, ?_, h3⟩
    simp only [ne_eq, not_true_eq_false, if_false]
    exact h2
  · simp only [ne_eq, he, not_false_eq_true, if_true]
    refine (refInNum_err g s err least most he w hb).mono fun e w' ⟨h1, h2⟩ => ⟨h1, h2 ▸ hb.out, h2 ▸ Only.refl _ _⟩
theorem inStr_tot (hs : s.size ≤ 3000) (most : Int) (hb : Hid (Box w g (bytesOf s) err)) :
    Calls Tryd.prog 56 #[.pointer (some ⟨g, 0, none⟩), .int .i64 most] w fun e w' => e = .returned (.string (stS most s err).1) ∧ Box w' g (bytesOf (stS most s err).2.1) (stS most s err).2.2 ∧ Only (· = g) w w' := by
  unfold stS
  by_cases he : err = 0
  · subst he
    refine (inStr_only g (bytesOf s) most (by rw [bytesOf_len]; omega) (bytes_of s) w hb).mono fun e w' ⟨h1, h2, h3⟩ => ⟨by simpa using h1, ?_, h3⟩
    simp only [ne_eq, not_true_eq_false, if_false]
    obtain ⟨k, hk⟩ := rdS_rest most (bytesOf s)
    rw [bytesOf_sv _ (by rw [hk]; exact drop_bytes (bytes_of s) k)]
    exact h2
  · simp only [ne_eq, he, not_false_eq_true, if_true]
    refine (inStr_err g (bytesOf s) err most he w hb).mono fun e w' ⟨h1, h2⟩ => ⟨h1, h2 ▸ hb.out, h2 ▸ Only.refl _ _⟩
theorem refInStr_tot (hs : s.size ≤ 3000) (most : Int) (hb : Hid (RBox w g s err)) :
    Calls Tryd.prog 53 #[.pointer (some ⟨g, 0, none⟩), .int .i64 most] w fun e w' => e = .returned (.string (stS most s err).1) ∧ RBox w' g (stS most s err).2.1 (stS most s err).2.2 ∧ Only (· = g) w w' := by
  unfold stS
  by_cases he : err = 0
  · subst he
    refine (refInStr_any g s most (by omega) w hb).mono fun e w' ⟨h1, ⟨s', h2, _, h3⟩, h4⟩ => ⟨by simpa using h1, ?_, h4⟩
    simp only [ne_eq, not_true_eq_false, if_false]
    rw [← h2, sv_bytesOf]
    exact h3
  · simp only [ne_eq, he, not_false_eq_true, if_true]
    refine (refInStr_err g s err most he w hb).mono fun e w' ⟨h1, h2⟩ => ⟨h1, h2 ▸ hb.out, h2 ▸ Only.refl _ _⟩
end
/-- what stays of one reader while the other is called -/
theorem rbox_keep {w w' : World} {g gi : Nat} {s : ByteArray} {e : Int} (h : RBox w g s e) (ho : Only (· = gi) w w') (hne : g ≠ gi) : RBox w' g s e := by
  unfold RBox at *
  rw [ho.block g (Array.getElem?_eq_some_iff.1 h).1 hne]
  exact h
theorem box_lt {w : World} {g : Nat} {L : List Nat} {e : Int} (h : Box w g L e) : g < w.heap.size := by
  obtain ⟨hh, o, cap, hg, _⟩ := h
  exact (Array.getElem?_eq_some_iff.1 hg).1
theorem box_keep {w w' : World} {g gm : Nat} {L : List Nat} {e : Int} {s : ByteArray} {er : Int} (h : Box w g L e) (hr : RBox w gm s er) (ho : Only (· = gm) w w') (hne : g ≠ gm) : Box w' g L e := by
  obtain ⟨hh, o, cap, hg, h1, h2, h3⟩ := h
  refine ⟨hh, o, cap, by rw [ho.block g (Array.getElem?_eq_some_iff.1 hg).1 hne]; exact hg, h1, h2, fun i hi => ?_⟩
  have hc := h3 i hi
  have hne2 : hh ≠ gm := by
    intro eq
    subst eq
    unfold RBox at hr
    simp only [World.cell?, hr] at hc
    rcases Nat.lt_or_ge (o + i) 2 with hlt | hge
    · rcases (by omega : o + i = 0 ∨ o + i = 1) with e0 | e0 <;> rw [e0] at hc <;> simp at hc
    · simp [hge] at hc
  have hlt := World.block_lt_of_cell? w _ hc
  rw [← hc]
  simp only [World.cell?]
  rw [ho.block hh hlt hne2]
/-- a reader whose bytes lie from block B on -/
def BoxB (B : Nat) (w : World) (g : Nat) (L : List Nat) (err : Int) : Prop := ∃ h o cap, w.heap[g]? = some (.cells #[.slice (some ⟨h, o, none⟩) L.length cap, .int .i64 err] 84 (0, 0)) ∧ L.length ≤ cap ∧ h ≠ g ∧ At w h o L ∧ B ≤ h
theorem boxB_box {B : Nat} {w : World} {g : Nat} {L : List Nat} {e : Int} (h : BoxB B w g L e) : Box w g L e := by
  obtain ⟨hh, o, cap, a, b, c, d, _⟩ := h
  exact ⟨hh, o, cap, a, b, c, d⟩
theorem boxB_only {B : Nat} {w w' : World} {g ga : Nat} {L : List Nat} {e : Int} (h : BoxB B w g L e) (ho : Only (· = ga) w w') (hga : ga < B) (hg : g ≠ ga) : BoxB B w' g L e := by
  obtain ⟨hh, o, cap, a, b, c, d, f⟩ := h
  refine ⟨hh, o, cap, by rw [ho.block g (Array.getElem?_eq_some_iff.1 a).1 hg]; exact a, b, c, fun i hi => ?_, f⟩
  have hc := d i hi
  rw [← hc]
  simp only [World.cell?]
  rw [ho.block hh (World.block_lt_of_cell? w _ hc) (by omega)]
theorem boxB_later {B : Nat} {w w' : World} {g : Nat} {L : List Nat} {e : Int} (h : BoxB B w g L e) (hb : Below w.heap.size w w') : BoxB B w' g L e := by
  obtain ⟨hh, o, cap, a, b, c, d, f⟩ := h
  exact ⟨hh, o, cap, by rw [hb.block g (Array.getElem?_eq_some_iff.1 a).1]; exact a, b, c, at_later d hb, f⟩
set_option maxRecDepth 20000 in
theorem open_own (sp : Option Addr) (cap n : Nat) (L : List Nat) (hL : L.length = n) (hn : n ≤ 1000000) (w : World) (hs : Hid (Src w sp L)) :
    Calls Tryd.prog 33 #[.slice sp n cap] w fun e w' => ∃ g, e = .returned (.pointer (some ⟨g, 0, none⟩)) ∧ w.heap.size ≤ g ∧ BoxB w.heap.size w' g L 0 ∧ Below w.heap.size w w' := by
  subst hL
  obtain ⟨Z, hZ, hmk⟩ := mk_bytes L.length hn w
  have HZ := Lib.hid (fun _ : True => hZ)
  clear hZ
  go_enter Tryd.func33, Tryd.ntmps33
  go_wp2_with (refine wpList_copy_splice rfl (.tmp 7) (.tmp 8) 29 29 rfl 5 Tryd.underlying29 (by kernel_rfl) _ _ _ _ _ _ rfl rfl w.heap.size 0 Z 5 Array.getElem?_push_size (cells L) (by rw [cells_len]; simp) (fun hp => ⟨rfl, src_pos hs.out hp⟩) (by rw [cells_len, HZ.out trivial]; omega) (cells_one L) w.heap.size w ((Below.refl _ _).alloc (Nat.le_refl _) _) (Nat.le_refl _) ?_; intro w2 HG2 hB2)
  have hlt : w.heap.size < w2.heap.size := by
    rcases Nat.lt_or_ge w.heap.size w2.heap.size with h | h
    · exact h
    · have := HG2.out; rw [Array.getElem?_eq_none h] at this; cases this
  have hrow := HG2.out
  rw [splice_all Z (cells L) (by rw [cells_len, HZ.out trivial])] at hrow
  clear HG2
  go_ret
  refine ⟨_, rfl, hB2.size, ⟨w.heap.size, 0, L.length, Array.getElem?_push_size, Nat.le_refl _, Nat.ne_of_lt hlt, fun i hi => ?_, Nat.le_refl _⟩, hB2.alloc hB2.size _⟩
  have hc := at_of_row hrow i hi
  exact (World.cell?_alloc_old w2 _ _ (Nat.ne_of_lt (World.block_lt_of_cell? w2 _ hc))).trans hc
theorem src_later {w W : World} {sp : Option Addr} {L : List Nat} (h : Src w sp L) (hb : Below w.heap.size w W) : Src W sp L := fun hp => by
  obtain ⟨ad, e, hc⟩ := h hp
  exact ⟨ad, e, fun i hi => by rw [hb.cell (World.block_lt_of_cell? w _ (hc i hi))]; exact hc i hi⟩
/-- bytes that came in, as a text, in every later world -/
theorem src_conv {w : World} {sp : Option Addr} {L : List Nat} {n cap : Nat} (hL : L.length = n) (h : Src w sp L) (hz : n = 0 → sp = none → cap = 0) : ∀ W, Below w.heap.size w W → (convert 29 9 (.slice sp n cap)).run Tryd.prog W = .ok (.string (sv L)) W := by
  intro W hb
  rcases Nat.eq_zero_or_pos n with h0 | hp
  · subst h0
    obtain rfl : L = [] := List.length_eq_zero_iff.1 hL
    rw [run_convert_bytes_string W _ _ 5 _ 0 cap Tryd.underlying29 Tryd.underlying5 Tryd.underlying9]
    cases sp <;> simp [Conv.bytesToString, loadCells]
    all_goals rfl
  · obtain ⟨g, o, rfl, hat⟩ := src_at h (by omega)
    have := at_reads (cap := cap) hat n (by omega) W hb
    rwa [List.take_of_length_le (by omega)] at this
theorem boxB_mono {B B' : Nat} {w : World} {g : Nat} {L : List Nat} {e : Int} (h : BoxB B w g L e) (hB : B' ≤ B) : BoxB B' w g L e := by
  obtain ⟨hh, o, cap, a, b, c, d, f⟩ := h
  exact ⟨hh, o, cap, a, b, c, d, Nat.le_trans hB f⟩
theorem rbox_later {w w' : World} {g : Nat} {s : ByteArray} {e : Int} (h : RBox w g s e) (hb : Below w.heap.size w w') : RBox w' g s e := by
  unfold RBox at *
  rw [hb.block g (Array.getElem?_eq_some_iff.1 h).1]
  exact h
theorem boxes_ne {B : Nat} {w : World} {g gm : Nat} {L : List Nat} {e : Int} {s : ByteArray} {er : Int} (h : BoxB B w g L e) (hr : RBox w gm s er) : g ≠ gm := by
  obtain ⟨hh, o, cap, a, _⟩ := h
  intro eq
  subst eq
  unfold RBox at hr
  rw [hr] at a
  exact absurd a (by simp)
/-- a builtin's call, its run known -/
theorem wpList_call_exact {P : Program} {w : World} {ops : Array Oper} {rest : List Oper} {o : Oper} {a : Act} {Q : Exit → Act → World → Prop} (hgd : o.guard = none) (s x : Operand) (t : TypeId)
    (ho : o.op = .call { callee := .builtin .append, args := #[s, x], argTypes := #[t, t] }) (v0 v1 v' : Value) (w' : World) (hs : a.eval s = v0) (hx : a.eval x = v1)
    (hrun : (Builtin.append_ #[t, t] o.type #[v0, v1]).run P w = .ok v' w') (h : wpList P ops Q rest (a.put o.dst v') w') : wpList P ops Q (o :: rest) a w := by
  refine wpList_plain hgd fun K hK => ?_
  unfold Oper.wp
  simp [execOp, ho, resolve, invoke, builtin, hs, hx, hrun, Result.andThen]
  exact hK _ _ h
/-- bytes that came in, put behind none -/
theorem wpList_append_in {w : World} {ops : Array Oper} {rest : List Oper} {o : Oper} {a : Act} {Q : Exit → Act → World → Prop} (hgd : o.guard = none) (s x : Operand)
    (ho : o.op = .call { callee := .builtin .append, args := #[s, x], argTypes := #[29, 29] }) (base : Nat) (v : Value) (hs : a.eval s = v) (hown : w.ownsRow base 5 1 v 0 [])
    (a0 : Option Addr) (m cap0 : Nat) (hx : a.eval x = .slice a0 m cap0) (L : List Nat) (hL : L.length = m) (hm : m ≤ 3000) (hS : Src w a0 L) (hA : (a0 = none ∧ cap0 = 0 ∧ m = 0) ∨ ∃ x, a0 = some x) (hbase : base ≤ w.heap.size)
    (h : ∀ v' w', Own base v' L w' → Below base w w' → wpList Tryd.prog ops Q rest (a.put o.dst v') w') : wpList Tryd.prog ops Q (o :: rest) a w := by
  obtain ⟨i0, hi, hz0, hz1, hz2⟩ := info_parts info8
  rcases hA with ⟨rfl, rfl, rfl⟩ | ⟨ad, rfl⟩
  · obtain rfl : L = [] := List.length_eq_zero_iff.1 hL
    exact wpList_call_exact hgd s x 29 ho v _ v w hs hx (run_append_owned_none w base 29 _ 5 i0 1 Tryd.underlying29 hi v 0 [] hown) (h v w hown (Below.refl _ _))
  · refine wpList_append_own w hgd s x 29 ho base 5 i0 (.int .u8 0) 1 1 Tryd.underlying29 hi hz0 hz1 hz2 rfl (by decide) v 0 [] hs hown ad m cap0 (cells L) hx (by rw [cells_len, hL, Nat.mul_one]) (fun j u hu => ?_) (cells_one L) (by unfold maxLen; omega) (by omega) hbase ?_
    · have hjl : j < L.length := by
        have := (List.getElem?_eq_some_iff.1 hu).1
        rwa [cells_len] at this
      obtain ⟨ad', e, hc⟩ := hS (by omega)
      cases e
      rw [hc j hjl]
      simp [cells, hjl] at hu
      rw [← hu]; simp [List.getD, hjl]
    · intro v' w' ho' hg _
      refine h v' w' ?_ ((Below.refl base w).grown hg hbase (fun k hk => own_ge hown hk))
      unfold Own
      rw [hL]
      simpa using ho'
/-- the law's rows of calls -/
def TakesAt (w : World) (a : Option Addr) (len : Nat) (X A B : Nat → Int) : Prop := ∀ i, i < len → ∃ g o, a = some ⟨g, o, none⟩ ∧ w.cell? ⟨g, o + i * 3, none⟩ = some (.int .i64 (X i)) ∧ w.cell? ⟨g, o + i * 3 + 1, none⟩ = some (.int .i64 (A i)) ∧ w.cell? ⟨g, o + i * 3 + 2, none⟩ = some (.int .i64 (B i))
theorem takes_later {w W : World} {a : Option Addr} {len : Nat} {X A B : Nat → Int} (h : TakesAt w a len X A B) (hb : Below w.heap.size w W) : TakesAt W a len X A B := fun i hi => by
  obtain ⟨g, o, e, h1, h2, h3⟩ := h i hi
  exact ⟨g, o, e, by rw [hb.cell (World.block_lt_of_cell? w _ h1)]; exact h1, by rw [hb.cell (World.block_lt_of_cell? w _ h2)]; exact h2, by rw [hb.cell (World.block_lt_of_cell? w _ h3)]; exact h3⟩
structure LInv (w : World) (B : Nat) (wr : World) (sa : Option Addr) (n capa gi gm : Nat) (s : ByteArray) : Prop where
  row : n = 0 ∨ ∃ ga xs, sa = some ⟨ga, 0, none⟩ ∧ ga < B ∧ wr.ownsRow w.heap.size 5 1 (.slice sa n capa) n xs
  box : BoxB B wr gi (bytesOf s) 0
  rbox : RBox wr gm s 0
  below : Below w.heap.size w wr
structure MInv (w wr : World) (gi gm : Nat) (s : ByteArray) (err : Int) : Prop where
  box : Box wr gi (bytesOf s) err
  rbox : RBox wr gm s err
  size : s.size ≤ 3000
  below : Below w.heap.size w wr
theorem rem4 (x : Int) : ∃ q : Nat, q < 4 ∧ wrap64 ((IntKind.u64.wrap x).tmod 4) = (q : Int) := by
  have h0 : 0 ≤ IntKind.u64.wrap x := by rw [IntKind.wrap_u64]; omega
  rw [Int.tmod_eq_emod_of_nonneg h0]
  generalize IntKind.u64.wrap x = y at *
  refine ⟨(y % 4).toNat, by omega, ?_⟩
  unfold wrap64
  omega
theorem own_kept2 {B e z n : Nat} {v : Value} {xs : List Value} {w W : World} (h : w.ownsRow B e z v n xs) (hb : Below w.heap.size w W) : W.ownsRow B e z v n xs := by
  refine ⟨h.1, ?_⟩
  rcases h.2 with h2 | ⟨g, cap, cur, h1, h2, h3, h4⟩
  · exact .inl h2
  · exact .inr ⟨g, cap, cur, h1, h2, (hb.block g (Array.getElem?_eq_some_iff.1 h3).1).trans h3, h4⟩
theorem rem18 (x : Int) : ∃ q : Nat, q < 18 ∧ wrap64 ((IntKind.u64.wrap x).tmod 18) = (q : Int) := by
  have h0 : 0 ≤ IntKind.u64.wrap x := by rw [IntKind.wrap_u64]; omega
  rw [Int.tmod_eq_emod_of_nonneg h0]
  generalize IntKind.u64.wrap x = y at *
  refine ⟨(y % 18).toNat, by omega, ?_⟩
  unfold wrap64
  omega
theorem minv_later {w wr W : World} {gi gm : Nat} {s : ByteArray} {err : Int} (h : MInv w wr gi gm s err) (hb : Below wr.heap.size wr W) : MInv w W gi gm s err :=
  ⟨box_later h.box hb, rbox_later h.rbox hb, h.size, h.below.trans (hb.mono h.below.size)⟩
theorem only_below2 {B : Nat} {w0 w w' : World} {g : Nat} (h : Below B w0 w) (ho : Only (· = g) w w') (hg : B ≤ g) (hB : B ≤ w0.heap.size) : Below B w0 w' := h.trans (ho.below (fun k e => e ▸ hg) (Nat.le_trans hB h.size))
theorem left_t (g : Nat) (t : ByteArray) (err : Int) (w : World) (hb : Hid (Box w g (bytesOf t) err)) :
    Calls Tryd.prog 58 #[.pointer (some ⟨g, 0, none⟩)] w fun e w' => e = .returned (.int .i64 (t.size : Int)) ∧ w = w' := by
  have h := left_any g (bytesOf t) err w hb
  rwa [bytesOf_len] at h

end Go.Proofs.YtpacjcgpeomnaaaDoor.Fw
