/- What a log's sectors tell: records that stand there, and what is written on. -/
import Derived.Test.YtfhgdcljhncjmaaDoorWalO
namespace Go.Proofs.YtfhgdcljhncjmaaDoor
open Go.ChangeShapes Go.WideShapes Go.ChangeAt Go.RowKit
set_option linter.unusedVariables false
set_option maxRecDepth 20000

/-- no record's first sector, of that age or a later one -/
def NoFirst (A : List Nat) (a : Int) : Prop := ∀ a' n c s, a ≤ a' → Fw.IntOk a' → Fw.IntOk n → Fw.IntOk c → Fw.IntOk s → A ≠ padL (firstL a' n c s)
theorem noFirst_zero (a : Int) : NoFirst (padL []) a := fun a' n c s _ _ _ _ _ => zero_none a' n c s
theorem noFirst_part (L : List Nat) (a : Int) : NoFirst (padL (partL L)) a := fun a' n c s _ _ _ _ _ => part_none L a' n c s
theorem noFirst_more {A : List Nat} {a b : Int} (h : NoFirst A a) (hab : a ≤ b) : NoFirst A b := fun a' n c s h1 => h a' n c s (by omega)
theorem noFirst_first {a n c s : Int} (ha : Fw.IntOk a) (hn : Fw.IntOk n) (hc : Fw.IntOk c) (hs : Fw.IntOk s) (b : Int) (hb : a < b) : NoFirst (padL (firstL a n c s)) b := fun a' n' c' s' h1 h2 h3 h4 h5 e => by
  have := (first_same ha hn hc hs h2 h3 h4 h5 e).1
  omega
theorem hd4_int (A : List Nat) (hA : A.length ≤ 1000) (hb : ∀ b ∈ A, b < 256) (ag nr room : Int) : Fw.IntOk (hd4 A ag nr room).1 ∧ Fw.IntOk (hd4 A ag nr room).2.1 ∧ ((hd4 A ag nr room).2.2 = 0 → 0 ≤ (hd4 A ag nr room).1 ∧ (hd4 A ag nr room).1 ≤ room) := by
  have i0 : InOk (A.drop 1) := ⟨by rw [List.length_drop]; omega, drop_byte hb 1⟩
  obtain ⟨v1, L1, e1, n1⟩ : ∃ v L e, numS ag ag (A.drop 1, 0) = (v, L, e) := ⟨_, _, _, rfl⟩
  obtain ⟨v2, L2, e2, n2⟩ : ∃ v L e, numS nr nr (L1, e1) = (v, L, e) := ⟨_, _, _, rfl⟩
  obtain ⟨v3, L3, e3, n3⟩ : ∃ v L e, numS 0 room (L2, e2) = (v, L, e) := ⟨_, _, _, rfl⟩
  obtain ⟨v4, L4, e4, n4⟩ : ∃ v L e, numS 0 4294967295 (L3, e3) = (v, L, e) := ⟨_, _, _, rfl⟩
  have i1 := numS_ok i0 n1
  have i2 := numS_ok i1 n2
  have i3 := numS_ok i2 n3
  have hd : hd4 A ag nr room = (v3, v4, e4) := by simp only [hd4, n1, n2, n3, n4]
  rw [hd]
  exact ⟨numS_int i2 n3, numS_int i3 n4, fun h => (numS_in n3 (numS_in n4 h).1).2⟩
theorem sb_byte (ns : List ByteArray) (i : Nat) : ∀ b ∈ sb ns i, b < 256 := bytes_lt _
theorem readS_none {ns : List ByteArray} (hf : Full ns) (q en : Nat) (hq : q ≤ en) (hen : en ≤ ns.length) (ag nr : Int) (hag : Fw.IntOk ag) (hnr : Fw.IntOk nr) (h : q < en → NoFirst (sb ns q) ag) : readS ns q en ag nr = none := by
  unfold readS
  by_cases e : q = en
  · rw [if_pos e]
  · rw [if_neg e]
    obtain ⟨_, h2, _⟩ := sb_get hf q (by omega)
    have hh := hd4_int (sb ns q) (by omega) (sb_byte ns q) ag nr (roomI q en)
    rw [if_neg fun hx => h (by omega) ag nr _ _ (Int.le_refl _) hag hnr hh.1 hh.2.1 hx.2.1]
theorem hd4_first (n : Nat) (s : Nat) (ag nr room : Int) (hag : Fw.IntOk ag) (hnr : Fw.IntOk nr) (hn : (n : Int) ≤ room) (hn2 : n ≤ 100000) (hs : s < 4294967296) : hd4 (padL (firstL ag nr (n : Int) (s : Int))) ag nr room = ((n : Int), (s : Int), 0) := by
  obtain ⟨R, e⟩ := first_drop ag nr (n : Int) (s : Int)
  have step : ∀ (lo hi v : Int) (T : List Nat), Fw.IntOk v → lo ≤ v → v ≤ hi → numS lo hi (Fw.vb (Fw.zz v) ++ T, 0) = (v, T, 0) := fun lo hi v T hv h1 h2 => by
    rw [numS_go, Fw.rdB_num v hv lo hi h1 h2 T, List.drop_left]
  unfold hd4
  rw [e]
  rw [step ag ag ag _ hag (Int.le_refl _) (Int.le_refl _)]
  rw [step nr nr nr _ hnr (Int.le_refl _) (Int.le_refl _)]
  rw [step 0 room (n : Int) _ ⟨by omega, by omega⟩ (by omega) hn]
  rw [step 0 4294967295 (s : Int) _ ⟨by omega, by omega⟩ (by omega) (by omega)]
theorem part_piece {b : List Nat} {n j : Nat} (hn : b.length = n) : ((padL (partL (chunk b j))).drop 1).take (n - 511 * j) = chunk b j := by
  have hl := chunk_len b j
  unfold padL partL
  simp only [List.cons_append, List.nil_append, List.drop_succ_cons, List.drop_zero]
  by_cases h : n - 511 * j ≤ (chunk b j).length
  · rw [List.take_append_of_le_length h, List.take_of_length_le (by omega)]
  · have hz : 512 - (68 :: chunk b j).length = 0 := by rw [List.length_cons]; omega
    rw [hz, List.replicate_zero, List.append_nil, List.take_of_length_le (by omega)]
/-- a record that was written is read -/
theorem readS_some {ns : List ByteArray} (q en : Nat) (ag nr : Int) (hag : Fw.IntOk ag) (hnr : Fw.IntOk nr) (b : List Nat) (n : Nat) (hn : b.length = n) (hn2 : n ≤ 100000) (hfit : q + need n ≤ en) (h1 : sb ns q = padL (firstL ag nr (n : Int) ((Fc.crcOf b : Nat) : Int))) (h2 : ∀ j, j < nparts n → sb ns (q + 1 + j) = padL (partL (chunk b j))) : readS ns q en ag nr = some b := by
  have hne : q ≠ en := by unfold need at hfit; omega
  have hroom : (n : Int) ≤ roomI q en := by
    unfold roomI
    rw [if_neg hne]
    unfold need at hfit
    omega
  have hd := hd4_first n (Fc.crcOf b) ag nr (roomI q en) hag hnr hroom hn2 (crc_lt b)
  have hp : ∀ j, j < nparts n → piece ns q n j = chunk b j := fun j hj => by
    unfold piece
    rw [h2 j hj]
    exact part_piece hn
  have hb : ∀ j, j ≤ nparts n → buf ns q n j = b.take (511 * j) := by
    intro j
    induction j with
    | zero => intro _; simp [buf]
    | succ j ih =>
      intro hj
      rw [buf, ih (by omega), hp j (by omega), chunk_more]
  have hbb : buf ns q n (nparts n) = b := by
    rw [hb _ (Nat.le_refl _), List.take_of_length_le (by unfold nparts; omega)]
  unfold readS
  rw [if_neg hne, h1, hd]
  simp only [Int.toNat_natCast]
  rw [hbb, if_pos]
  exact ⟨by trivial, by trivial, fun j hj => by rw [hp j hj]; exact h2 j hj, by trivial⟩
theorem buf_agree {ns ns' : List ByteArray} (q n : Nat) : ∀ j, (∀ i, i < j → sb ns' (q + 1 + i) = sb ns (q + 1 + i)) → buf ns' q n j = buf ns q n j
  | 0, _ => rfl
  | j + 1, h => by
    rw [buf, buf, buf_agree q n j fun i hi => h i (by omega)]
    unfold piece
    rw [h j (by omega)]
/-- what is read hangs on the record's sectors alone -/
theorem readS_agree {ns ns' : List ByteArray} (hf : Full ns) (q en : Nat) (hen : en ≤ ns.length) (ag nr : Int) (b : List Nat) (h : readS ns q en ag nr = some b) (hs : ∀ i, q ≤ i → i < q + need b.length → sb ns' i = sb ns i) : readS ns' q en ag nr = some b := by
  unfold readS at h ⊢
  by_cases e : q = en
  · rw [if_pos e] at h; cases h
  · rw [if_neg e] at h ⊢
    split at h
    case isFalse => cases h
    rename_i hc
    have hb := Option.some.inj h
    have hq : q < ns.length := by
      rcases Nat.lt_or_ge q ns.length with h1 | h1
      · exact h1
      · exfalso
        have h2 : sb ns q = [] := by
          unfold sb
          have h4 : ns.getD q ByteArray.empty = ByteArray.empty := by simp [List.getD, h1]
          rw [h4]
          rfl
        have h3 := hc.2.1
        rw [h2] at h3
        have := congrArg List.length h3
        unfold padL at this
        simp only [List.length_nil, List.length_append, List.length_replicate] at this
        omega
    obtain ⟨_, hl, _⟩ := sb_get hf q hq
    have hh := (hd4_int (sb ns q) (by omega) (sb_byte ns q) ag nr (roomI q en)).2.2 hc.1
    obtain ⟨n, hn⟩ : ∃ n : Nat, (hd4 (sb ns q) ag nr (roomI q en)).1 = (n : Int) := ⟨(hd4 (sb ns q) ag nr (roomI q en)).1.toNat, by omega⟩
    rw [hn] at hc hb hh
    simp only [Int.toNat_natCast] at hc hb
    by_cases hqe : q < en
    · have hfit : q + 1 + nparts n ≤ en := by
        have h5 := hh.2
        unfold roomI at h5
        rw [if_neg e] at h5
        unfold nparts
        omega
      have hlen : b.length = n := by
        rw [← hb, buf_len hf q n (nparts n) (by omega)]
        unfold nparts; omega
      have hs0 : sb ns' q = sb ns q := hs q (Nat.le_refl _) (by unfold need; omega)
      have hs1 : ∀ i, i < nparts n → sb ns' (q + 1 + i) = sb ns (q + 1 + i) := fun i hi => hs _ (by omega) (by rw [hlen, need_parts]; omega)
      rw [hs0, hn]
      simp only [Int.toNat_natCast]
      rw [buf_agree q n _ hs1, hb, if_pos]
      refine ⟨hc.1, hc.2.1, fun j hj => ?_, by rw [← hb]; exact hc.2.2.2⟩
      rw [hs1 j hj]
      have hpp : piece ns' q n j = piece ns q n j := by unfold piece; rw [hs1 j hj]
      rw [hpp]
      exact hc.2.2.1 j hj
    · exfalso
      have h5 := hh.2
      unfold roomI at h5
      rw [if_neg e] at h5
      omega
/-- records that stand one behind the other -/
inductive Recs (ns : List ByteArray) (en : Nat) (ag : Int) (p0 : Nat) : List (List Nat) → Nat → Prop
  | nil : Recs ns en ag p0 [] p0
  | snoc {bs : List (List Nat)} {q : Nat} {b : List Nat} : Recs ns en ag p0 bs q → readS ns q en ag (bs.length : Int) = some b → Recs ns en ag p0 (bs ++ [b]) (q + need b.length)
theorem recs_scn {ns : List ByteArray} {en : Nat} {ag : Int} {p0 : Nat} {bs : List (List Nat)} {q : Nat} (h : Recs ns en ag p0 bs q) : scn ns p0 en ag bs.length = (bs, q, bs.length) := by
  induction h with
  | nil => rfl
  | snoc h hr ih => rw [List.length_append]; exact scn_more ih hr
theorem scn_stop {ns : List ByteArray} {p0 en : Nat} {ag : Int} {j : Nat} {bs : List (List Nat)} {q m : Nat} (h : scn ns p0 en ag j = (bs, q, m)) (hr : readS ns q en ag (m : Int) = none) : ∀ i, scn ns p0 en ag (j + i) = (bs, q, m)
  | 0 => h
  | i + 1 => by
    have ih := scn_stop h hr i
    show scn ns p0 en ag (j + i + 1) = _
    rw [scn, ih]
    simp only
    rw [hr]
theorem recs_unique {ns : List ByteArray} {en : Nat} {ag : Int} {p0 : Nat} {bs : List (List Nat)} {q : Nat} (h : Recs ns en ag p0 bs q) (hr : readS ns q en ag (bs.length : Int) = none) {j : Nat} {bs' : List (List Nat)} {q' m' : Nat} (h' : scn ns p0 en ag j = (bs', q', m')) (hr' : readS ns q' en ag (m' : Int) = none) : bs' = bs ∧ q' = q ∧ m' = bs.length := by
  have h1 := scn_stop (recs_scn h) hr j
  have h2 := scn_stop h' hr' bs.length
  rw [Nat.add_comm, h2] at h1
  have e1 : bs' = bs := congrArg (fun x => x.1) h1
  have e2 : q' = q := congrArg (fun x => x.2.1) h1
  have e3 : m' = bs.length := congrArg (fun x => x.2.2) h1
  exact ⟨e1, e2, e3⟩
theorem recs_ge {ns : List ByteArray} {en : Nat} {ag : Int} {p0 : Nat} {bs : List (List Nat)} {q : Nat} (h : Recs ns en ag p0 bs q) : p0 + bs.length ≤ q := by
  induction h with
  | nil => simp
  | snoc h hr ih => rw [List.length_append]; unfold need; simp; omega
theorem recs_agree {ns ns' : List ByteArray} (hf : Full ns) {en : Nat} (hen : en ≤ ns.length) {ag : Int} {p0 : Nat} {bs : List (List Nat)} {q : Nat} (h : Recs ns en ag p0 bs q) (hs : ∀ i, p0 ≤ i → i < q → sb ns' i = sb ns i) : Recs ns' en ag p0 bs q := by
  induction h with
  | nil => exact .nil
  | snoc h hr ih =>
    have hge := recs_ge h
    exact .snoc (ih fun i h1 h2 => hs i h1 (by omega)) (readS_agree hf _ en hen ag _ _ hr fun i h1 h2 => hs i (by omega) h2)
/-- a log in its sectors -/
structure LInv (ns : List ByteArray) (f en : Nat) (ag : Int) (hd : Nat) (bs : List (List Nat)) (p : Nat) : Prop where
  full : Full ns
  len : en ≤ ns.length
  ge : f + 2 ≤ p ∧ p ≤ en
  hd01 : hd ≤ 1
  head : sb ns (f + hd) = padL (headL ag)
  st : stAt (fun j => sb ns (f + j)) 2 = (ag, (hd : Int))
  age : 1 ≤ ag ∧ ag ≤ 1000000
  recs : Recs ns en ag (f + 2) bs p
  now : ∀ q, p ≤ q → q < en → NoFirst (sb ns q) ag
  next : ∀ q, f + 2 ≤ q → q < en → NoFirst (sb ns q) (ag + 1)
section
variable {ns ns' : List ByteArray} {f en : Nat} {ag : Int} {hd : Nat} {bs : List (List Nat)} {p : Nat}
theorem LInv.count (h : LInv ns f en ag hd bs p) : bs.length ≤ en := by have := recs_ge h.recs; have := h.ge; omega
theorem LInv.end (h : LInv ns f en ag hd bs p) (hen : en ≤ 1000) : readS ns p en ag (bs.length : Int) = none :=
  readS_none h.full p en h.ge.2 h.len ag _ (by have := h.age; constructor <;> omega) (by have := h.count; constructor <;> omega) fun hq => h.now p (Nat.le_refl _) hq
theorem stAt_same {As Bs : Nat → List Nat} (h0 : As 0 = Bs 0) (h1 : As 1 = Bs 1) : stAt As 2 = stAt Bs 2 := by
  show headStep (headStep (0, 0) _ (As 0)) _ (As 1) = headStep (headStep (0, 0) _ (Bs 0)) _ (Bs 1)
  rw [h0, h1]
/-- sectors of bytes, behind the records, change nothing -/
theorem LInv.parts (h : LInv ns f en ag hd bs p) (hf : Full ns') (hl : ns'.length = ns.length) (hs : ∀ i, i < ns.length → sb ns' i = sb ns i ∨ (p < i ∧ i < en ∧ ∃ c, sb ns' i = padL (partL c))) : LInv ns' f en ag hd bs p := by
  have hlen := h.len
  have hge := h.ge
  have hsame : ∀ i, i ≤ p → i < en → sb ns' i = sb ns i := fun i hi hie => (hs i (by omega)).elim (fun x => x) fun x => by omega
  have hno : ∀ (a : Int) q, q < en → NoFirst (sb ns q) a → NoFirst (sb ns' q) a := fun a q hq hn => by
    rcases hs q (by omega) with e | ⟨_, _, c, e⟩
    · rw [e]; exact hn
    · rw [e]; exact noFirst_part c a
  have hhd := h.hd01
  exact ⟨hf, by omega, h.ge, h.hd01, by rw [hsame (f + hd) (by omega) (by omega)]; exact h.head, by rw [← h.st]; exact stAt_same (hsame (f + 0) (by omega) (by omega)) (hsame (f + 1) (by omega) (by omega)), h.age, recs_agree h.full h.len h.recs fun i h1 h2 => hsame i (by omega) (by omega), fun q h1 h2 => hno ag q h2 (h.now q h1 h2), fun q h1 h2 => hno (ag + 1) q h2 (h.next q h1 h2)⟩
/-- a record more -/
theorem LInv.more (h : LInv ns f en ag hd bs p) (hen : en ≤ 1000) (hf : Full ns') (hl : ns'.length = ns.length) (b : List Nat) (n : Nat) (hn : b.length = n) (hn2 : n ≤ 100000) (hfit : p + need n ≤ en) (h1 : sb ns' p = padL (firstL ag (bs.length : Int) (n : Int) ((Fc.crcOf b : Nat) : Int))) (h2 : ∀ j, j < nparts n → sb ns' (p + 1 + j) = padL (partL (chunk b j))) (hs : ∀ i, i < ns.length → i < p ∨ p + need n ≤ i → sb ns' i = sb ns i) : LInv ns' f en ag hd (bs ++ [b]) (p + need n) := by
  have hlen := h.len
  have hge := h.ge
  have hhd := h.hd01
  have hcnt := h.count
  have hag := h.age
  have hnd : 1 ≤ need n := by unfold need; omega
  have hia : Fw.IntOk ag := by constructor <;> omega
  have hin : Fw.IntOk (bs.length : Int) := by constructor <;> omega
  have hsame : ∀ i, i < p → sb ns' i = sb ns i := fun i hi => hs i (by omega) (.inl hi)
  have hr := readS_some (ns := ns') p en ag (bs.length : Int) hia hin b n hn hn2 hfit h1 h2
  refine ⟨hf, by omega, ⟨by omega, hfit⟩, h.hd01, by rw [hsame (f + hd) (by omega)]; exact h.head, by rw [← h.st]; exact stAt_same (hsame (f + 0) (by omega)) (hsame (f + 1) (by omega)), h.age, ?_, fun q q1 q2 => ?_, fun q q1 q2 => ?_⟩
  · have h9 := Recs.snoc (recs_agree h.full h.len h.recs fun i h1 h2 => hsame i (by omega)) hr
    rw [hn] at h9
    exact h9
  · rw [hs q (by omega) (.inr q1)]
    exact h.now q (by omega) q2
  · by_cases c1 : q < p
    · rw [hsame q c1]; exact h.next q q1 q2
    · by_cases c2 : p + need n ≤ q
      · rw [hs q (by omega) (.inr c2)]; exact h.next q q1 q2
      · by_cases c3 : q = p
        · subst c3
          rw [h1]
          have := crc_lt b
          exact noFirst_first hia hin ⟨by omega, by omega⟩ ⟨by omega, by omega⟩ _ (by omega)
        · have h9 := h2 (q - p - 1) (by rw [need_parts] at c2; omega)
          rw [show p + 1 + (q - p - 1) = q by omega] at h9
          rw [h9]
          exact noFirst_part _ _
/-- a head of the next age -/
theorem LInv.trunc (h : LInv ns f en ag hd bs p) (hf : Full ns') (hl : ns'.length = ns.length) (hag : ag < 1000000) (h1 : sb ns' (f + (1 - hd)) = padL (headL (ag + 1))) (hs : ∀ i, i < ns.length → i ≠ f + (1 - hd) → sb ns' i = sb ns i) : LInv ns' f en (ag + 1) (1 - hd) [] (f + 2) := by
  have hlen := h.len
  have hge := h.ge
  have hhd := h.hd01
  have hage := h.age
  have hh : sb ns' (f + hd) = padL (headL ag) := by rw [hs (f + hd) (by omega) (by omega)]; exact h.head
  refine ⟨hf, by omega, ⟨by omega, by omega⟩, by omega, h1, ?_, ⟨by omega, by omega⟩, .nil, fun q q1 q2 => ?_, fun q q1 q2 => ?_⟩
  · rcases (show hd = 0 ∨ hd = 1 by omega) with rfl | rfl
    · show headStep (headStep (0, 0) ((0 : Nat) : Int) (sb ns' (f + 0))) ((1 : Nat) : Int) (sb ns' (f + 1)) = _
      rw [hh, h1, step_head _ _ ag (by omega) (by omega) (by show (0 : Int) < ag; omega), step_head _ _ (ag + 1) (by omega) (by omega) (by show ag < ag + 1; omega)]
    · show headStep (headStep (0, 0) ((0 : Nat) : Int) (sb ns' (f + 0))) ((1 : Nat) : Int) (sb ns' (f + 1)) = _
      have h1' : sb ns' (f + 0) = padL (headL (ag + 1)) := h1
      rw [hh, h1', step_head _ _ (ag + 1) (by omega) (by omega) (by show (0 : Int) < ag + 1; omega), step_less _ _ ag (by omega) (by omega) (by show ag ≤ ag + 1; omega)]
  · rw [hs q (by omega) (by omega)]; exact h.next q q1 q2
  · rw [hs q (by omega) (by omega)]; exact noFirst_more (h.next q q1 q2) (by omega)
end
end Go.Proofs.YtfhgdcljhncjmaaDoor
