/- Rows of numbers and texts, written one behind the other and read: the reader's contracts at such rows. -/
import Derived.Test.YtflgodphphbbjaaBack
namespace Go.Proofs.Ytflgodphphbbjaa
open Go.ChangeShapes Go.WideShapes Go.ChangeAt Go.RowKit Go.Lib
set_option linter.unusedVariables false

def encN (ns : List Int) : List (List Nat) := ns.map fun n => vb (zz n)
def wT (t : ByteArray) : List Nat := vb (zz (t.size : Int)) ++ bytesOf t
def encT (ts : List ByteArray) : List (List Nat) := ts.map wT
def IntOk (n : Int) : Prop := -9223372036854775808 ≤ n ∧ n ≤ 9223372036854775807
def Bytes (L : List Nat) : Prop := ∀ b ∈ L, b < 256
theorem bytes_append {A B : List Nat} (hA : Bytes A) (hB : Bytes B) : Bytes (A ++ B) := fun b hb => by
  rcases List.mem_append.1 hb with h | h
  · exact hA b h
  · exact hB b h
theorem bytes_take {A : List Nat} (hA : Bytes A) (k : Nat) : Bytes (A.take k) := fun b hb => hA b (List.mem_of_mem_take hb)
theorem bytes_of (s : ByteArray) : Bytes (bytesOf s) := fun b hb => by
  obtain ⟨u, _, rfl⟩ := List.mem_map.1 hb
  exact u.toNat_lt
theorem bytes_wT (t : ByteArray) : Bytes (wT t) := bytes_append (vb_byte _) (bytes_of t)
theorem encN_len : ∀ ns : List Int, (∀ n ∈ ns, IntOk n) → (encN ns).flatten.length ≤ 10 * ns.length
  | [], _ => Nat.le_refl _
  | n :: t, h => by
    have ih := encN_len t fun m hm => h m (List.mem_cons_of_mem _ hm)
    have h1 := vb_ten (zz n) (zz_lt n (h n (List.mem_cons_self ..)).1 (h n (List.mem_cons_self ..)).2)
    show (vb (zz n) ++ (encN t).flatten).length ≤ 10 * (t.length + 1)
    rw [List.length_append]; omega
theorem encT_len : ∀ ts : List ByteArray, (∀ t ∈ ts, t.size ≤ 200) → (encT ts).flatten.length ≤ 210 * ts.length
  | [], _ => Nat.le_refl _
  | t :: r, h => by
    have ih := encT_len r fun m hm => h m (List.mem_cons_of_mem _ hm)
    have h0 := h t (List.mem_cons_self ..)
    have h1 := vb_ten (zz (t.size : Int)) (zz_lt _ (by omega) (by omega))
    show (wT t ++ (encT r).flatten).length ≤ 210 * (r.length + 1)
    rw [List.length_append]
    unfold wT
    rw [List.length_append, bytesOf_len]; omega
theorem encN_bytes (ns : List Int) : Bytes (encN ns).flatten := fun b hb => by
  obtain ⟨l, hl, hb⟩ := List.mem_flatten.1 hb
  obtain ⟨n, _, rfl⟩ := List.mem_map.1 hl
  exact vb_byte _ b hb
theorem encT_bytes (ts : List ByteArray) : Bytes (encT ts).flatten := fun b hb => by
  obtain ⟨l, hl, hb⟩ := List.mem_flatten.1 hb
  obtain ⟨t, _, rfl⟩ := List.mem_map.1 hl
  exact bytes_wT t b hb
/-- what is left to be read, of a beginning of it that is short: it ended too soon, or there is less than all -/
def St (L : List Nat) (err : Int) (R : List Nat) : Prop := err = 3 ∨ (err = 0 ∧ ∃ r, L = R.take r ∧ r < R.length)

theorem rdB_num (n : Int) (hn : IntOk n) (least most : Int) (h1 : least ≤ n) (h2 : n ≤ most) (R : List Nat) : rdB least most (vb (zz n) ++ R) = (n, (vb (zz n)).length, 0) := by
  unfold rdB
  rw [rd_num n hn.1 hn.2 R]
  exact if_neg fun h => by rcases h with ⟨_, h | h⟩ <;> (simp only at h; omega)
theorem rdB_cut (n : Int) (hn : IntOk n) (least most : Int) (j : Nat) (hj : j < (vb (zz n)).length) : rdB least most ((vb (zz n)).take j) = (0, 0, 3) := by
  unfold rdB
  rw [rd_num_cut n hn.1 hn.2 j hj]
  exact if_neg fun h => absurd h.1 (by decide)
theorem take_front (v R : List Nat) (r : Nat) (h : r < v.length) : (v ++ R).take r = v.take r := by
  rw [List.take_append_of_le_length (by omega)]
theorem take_behind (v R : List Nat) (r : Nat) (h : v.length ≤ r) : (v ++ R).take r = v ++ R.take (r - v.length) := by
  rw [List.take_append, List.take_of_length_le h]
/-- the next number, whole -/
theorem num_whole (g : Nat) (n : Int) (hn : IntOk n) (R : List Nat) (hR : Bytes R) (hl : ((vb (zz n)) ++ R).length ≤ 1000000) (w : World) (hb : Hid (Box w g (vb (zz n) ++ R) 0)) :
    Calls Try.prog 15 #[.pointer (some ⟨g, 0, none⟩), .int .i64 (-9223372036854775808), .int .i64 9223372036854775807] w fun e w' => e = .returned (.int .i64 n) ∧ Hid (Box w' g R 0) ∧ Hid (Below g w w') :=
  (inNum_any g _ (-9223372036854775808) 9223372036854775807 hl (bytes_append (vb_byte _) hR) w hb).mono fun e w' ⟨h1, h2, h3⟩ => by
    rw [rdB_num n hn _ _ hn.1 hn.2] at h1 h2
    exact ⟨h1, Lib.hid (by simpa using h2), Lib.hid h3⟩
/-- the next number, of a short row -/
theorem num_short (g : Nat) (n : Int) (hn : IntOk n) (L R : List Nat) (err : Int) (hR : Bytes R) (hL : Bytes L) (hl : L.length ≤ 1000000) (hS : St L err (vb (zz n) ++ R)) (w : World) (hb : Hid (Box w g L err)) :
    Calls Try.prog 15 #[.pointer (some ⟨g, 0, none⟩), .int .i64 (-9223372036854775808), .int .i64 9223372036854775807] w fun e w' => ∃ n' L' err', e = .returned (.int .i64 n') ∧ Hid (Box w' g L' err') ∧ Hid (St L' err' R ∧ Bytes L' ∧ L'.length ≤ 1000000) ∧ Hid (Below g w w') := by
  rcases hS with rfl | ⟨rfl, r, rfl, hr⟩
  · exact (inNum_err g L 3 _ _ (by decide) w hb).mono fun e w' ⟨h1, h2⟩ => by
      subst h2
      exact ⟨0, L, 3, h1, hb, Lib.hid ⟨.inl rfl, hL, hl⟩, Lib.hid (Below.refl _ _)⟩
  · refine (inNum_any g _ (-9223372036854775808) 9223372036854775807 hl hL w hb).mono fun e w' ⟨h1, h2, h3⟩ => ?_
    by_cases hrv : r < (vb (zz n)).length
    · rw [take_front _ _ _ hrv] at hL hl h1 h2
      rw [rdB_cut n hn _ _ r hrv] at h1 h2
      exact ⟨_, _, _, h1, Lib.hid h2, Lib.hid ⟨.inl rfl, by simpa using hL, by simpa using hl⟩, Lib.hid h3⟩
    · rw [take_behind _ _ _ (by omega)] at hL hl h1 h2
      rw [rdB_num n hn _ _ hn.1 hn.2] at h1 h2
      rw [List.length_append] at hr hl
      refine ⟨_, R.take (r - (vb (zz n)).length), _, h1, Lib.hid (by simpa using h2), Lib.hid ⟨.inr ⟨rfl, r - (vb (zz n)).length, rfl, by omega⟩, bytes_take hR _, by omega⟩, Lib.hid h3⟩
theorem sizeOk (t : ByteArray) (h : t.size ≤ 200) : IntOk (t.size : Int) := ⟨by omega, by omega⟩
theorem rdS_text (t : ByteArray) (h : t.size ≤ 200) (R : List Nat) : rdS 200 (wT t ++ R) = (bytesOf t, R, 0) := by
  unfold rdS wT
  rw [List.append_assoc, rdB_num _ (sizeOk t h) 0 200 (by omega) (by omega)]
  simp only [ne_eq, not_true_eq_false, if_false, List.drop_left, Int.toNat_natCast]
  rw [if_neg (by rw [List.length_append, bytesOf_len]; omega)]
  have e : t.size = (bytesOf t).length := (bytesOf_len t).symm
  rw [e, List.take_left, List.drop_left]
theorem rdS_cut (t : ByteArray) (h : t.size ≤ 200) (r : Nat) (hr : r < (wT t).length) : (rdS 200 ((wT t).take r)).2.2 = 3 := by
  unfold rdS wT
  by_cases hrv : r < (vb (zz (t.size : Int))).length
  · rw [take_front _ _ _ hrv, rdB_cut _ (sizeOk t h) _ _ r hrv]
    rfl
  · rw [take_behind _ _ _ (by omega), rdB_num _ (sizeOk t h) 0 200 (by omega) (by omega)]
    unfold wT at hr
    rw [List.length_append, bytesOf_len] at hr
    simp only [ne_eq, not_true_eq_false, if_false, List.drop_left]
    rw [if_pos (by rw [List.length_take, bytesOf_len]; omega)]
theorem drop_bytes {L : List Nat} (h : Bytes L) (k : Nat) : Bytes (L.drop k) := fun b hb => h b (List.mem_of_mem_drop hb)
theorem rdS_rest (most : Int) (L : List Nat) : ∃ k, (rdS most L).2.1 = L.drop k := by
  unfold rdS
  simp only
  split
  · exact ⟨_, rfl⟩
  · split
    · exact ⟨_, rfl⟩
    · exact ⟨_, by rw [List.drop_drop]⟩
/-- the next text, whole -/
theorem str_whole (g : Nat) (t : ByteArray) (ht : t.size ≤ 200) (R : List Nat) (hR : Bytes R) (hl : (wT t ++ R).length ≤ 1000000) (w : World) (hb : Hid (Box w g (wT t ++ R) 0)) :
    Calls Try.prog 19 #[.pointer (some ⟨g, 0, none⟩), .int .i64 200] w fun e w' => e = .returned (.string t) ∧ Hid (Box w' g R 0) ∧ Hid (Below g w w') :=
  (inStr_any g _ 200 hl (bytes_append (bytes_wT t) hR) w hb).mono fun e w' ⟨h1, h2, h3⟩ => by
    rw [rdS_text t ht] at h1 h2
    simp only [sv_bytesOf] at h1
    exact ⟨h1, Lib.hid h2, Lib.hid h3⟩
/-- the next text, of a short row -/
theorem str_short (g : Nat) (t : ByteArray) (ht : t.size ≤ 200) (L R : List Nat) (err : Int) (hR : Bytes R) (hL : Bytes L) (hl : L.length ≤ 1000000) (hS : St L err (wT t ++ R)) (w : World) (hb : Hid (Box w g L err)) :
    Calls Try.prog 19 #[.pointer (some ⟨g, 0, none⟩), .int .i64 200] w fun e w' => ∃ s' L' err', e = .returned (.string s') ∧ Hid (Box w' g L' err') ∧ Hid (St L' err' R ∧ Bytes L' ∧ L'.length ≤ 1000000) ∧ Hid (Below g w w') := by
  rcases hS with rfl | ⟨rfl, r, rfl, hr⟩
  · exact (inStr_err g L 3 _ (by decide) w hb).mono fun e w' ⟨h1, h2⟩ => by
      subst h2
      exact ⟨_, L, 3, h1, hb, Lib.hid ⟨.inl rfl, hL, hl⟩, Lib.hid (Below.refl _ _)⟩
  · refine (inStr_any g _ 200 hl hL w hb).mono fun e w' ⟨h1, h2, h3⟩ => ?_
    obtain ⟨k, hk⟩ := rdS_rest 200 ((wT t ++ R).take r)
    by_cases hrv : r < (wT t).length
    · have h4 : (rdS 200 ((wT t ++ R).take r)).2.2 = 3 := by rw [take_front _ _ _ hrv]; exact rdS_cut t ht r hrv
      refine ⟨_, _, _, h1, Lib.hid h2, Lib.hid ⟨.inl h4, ?_, ?_⟩, Lib.hid h3⟩
      · rw [hk]; exact drop_bytes hL k
      · rw [hk, List.length_drop]; omega
    · rw [take_behind _ _ _ (by omega)] at hL hl h1 h2
      rw [rdS_text t ht] at h1 h2
      rw [List.length_append] at hr hl
      exact ⟨_, R.take (r - (wT t).length), _, h1, Lib.hid h2, Lib.hid ⟨.inr ⟨rfl, r - (wT t).length, rfl, by omega⟩, bytes_take hR _, by omega⟩, Lib.hid h3⟩
/-- the end, whole and short -/
theorem end_whole (g : Nat) (w : World) (hb : Hid (Box w g [] 0)) : Calls Try.prog 17 #[.pointer (some ⟨g, 0, none⟩)] w fun e w' => e = .returned (.int .i64 0) ∧ Hid (Below g w w') :=
  (end_any g [] 0 w hb).mono fun e w' ⟨h1, _, h3⟩ => ⟨h1, Lib.hid h3⟩
theorem end_short (g : Nat) (L : List Nat) (err : Int) (hS : St L err []) (w : World) (hb : Hid (Box w g L err)) : Calls Try.prog 17 #[.pointer (some ⟨g, 0, none⟩)] w fun e w' => e = .returned (.int .i64 3) ∧ Hid (Below g w w') := by
  rcases hS with rfl | ⟨_, r, _, hr⟩
  · exact (end_any g L 3 w hb).mono fun e w' ⟨h1, _, h3⟩ => ⟨by rw [h1]; unfold endE; rw [if_neg (by omega)], Lib.hid h3⟩
  · exact absurd hr (by simp)
end Go.Proofs.Ytflgodphphbbjaa
