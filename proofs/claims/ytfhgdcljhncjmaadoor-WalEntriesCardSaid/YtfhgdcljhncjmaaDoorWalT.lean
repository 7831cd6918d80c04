/- read: the record that stands in the next sector, or none: of whatever sectors. -/
import Derived.Test.YtfhgdcljhncjmaaDoorWalR
namespace Go.Proofs.YtfhgdcljhncjmaaDoor
open Go.ChangeShapes Go.WideShapes Go.ChangeAt Go.RowKit
set_option linter.unusedVariables false
set_option maxRecDepth 20000

/-- a number between two, of bytes that may have failed -/
def numS (lo hi : Int) (s : List Nat × Int) : Int × (List Nat × Int) := if s.2 = 0 then ((Fw.rdB lo hi s.1).1, s.1.drop (Fw.rdB lo hi s.1).2.1, (Fw.rdB lo hi s.1).2.2) else (0, s)
theorem numS_go (lo hi : Int) (L : List Nat) : numS lo hi (L, 0) = ((Fw.rdB lo hi L).1, L.drop (Fw.rdB lo hi L).2.1, (Fw.rdB lo hi L).2.2) := if_pos rfl
theorem numS_stop (lo hi : Int) (L : List Nat) (e : Int) (he : e ≠ 0) : numS lo hi (L, e) = (0, L, e) := if_neg he
def InOk (L : List Nat) : Prop := L.length ≤ 1000000 ∧ ∀ b ∈ L, b < 256
theorem numS_ok {lo hi : Int} {L : List Nat} {e v : Int} {L' : List Nat} {e' : Int} (h : InOk L) (hn : numS lo hi (L, e) = (v, L', e')) : InOk L' := by
  by_cases he : e = 0
  · subst he
    rw [numS_go] at hn
    have h1 : L.drop (Fw.rdB lo hi L).2.1 = L' := by
      have := congrArg (fun x => x.2.1) hn
      exact this
    rw [← h1]
    exact ⟨by rw [List.length_drop]; have := h.1; omega, fun b hb => h.2 b (List.mem_of_mem_drop hb)⟩
  · rw [numS_stop lo hi L e he] at hn
    have h1 : L = L' := congrArg (fun x => x.2.1) hn
    rw [← h1]; exact h
theorem numS_int {lo hi : Int} {L : List Nat} {e v : Int} {L' : List Nat} {e' : Int} (h : InOk L) (hn : numS lo hi (L, e) = (v, L', e')) : -9223372036854775808 ≤ v ∧ v ≤ 9223372036854775807 := by
  by_cases he : e = 0
  · subst he
    rw [numS_go] at hn
    have h1 : (Fw.rdB lo hi L).1 = v := congrArg (fun x => x.1) hn
    rw [← h1]
    exact rdB_int lo hi L h.2
  · rw [numS_stop lo hi L e he] at hn
    have h1 : (0 : Int) = v := congrArg (fun x => x.1) hn
    rw [← h1]; constructor <;> decide
theorem rdB_in (lo hi : Int) (L : List Nat) (h : (Fw.rdB lo hi L).2.2 = 0) : lo ≤ (Fw.rdB lo hi L).1 ∧ (Fw.rdB lo hi L).1 ≤ hi := by
  unfold Fw.rdB at h ⊢
  split at h
  · simp at h
  · rename_i hc
    rw [if_neg hc]
    by_cases h1 : (Fw.rd 0 0 L).1 < lo
    · exact absurd ⟨h, .inl h1⟩ hc
    · by_cases h2 : hi < (Fw.rd 0 0 L).1
      · exact absurd ⟨h, .inr h2⟩ hc
      · omega
theorem numS_in {lo hi : Int} {L : List Nat} {e v : Int} {L' : List Nat} {e' : Int} (hn : numS lo hi (L, e) = (v, L', e')) (h : e' = 0) : e = 0 ∧ lo ≤ v ∧ v ≤ hi := by
  by_cases he : e = 0
  · subst he
    rw [numS_go] at hn
    have h1 : (Fw.rdB lo hi L).1 = v := congrArg (fun x => x.1) hn
    have h2 : (Fw.rdB lo hi L).2.2 = e' := congrArg (fun x => x.2.2) hn
    rw [← h1]
    exact ⟨rfl, rdB_in lo hi L (by rw [h2, h])⟩
  · rw [numS_stop lo hi L e he] at hn
    have h2 : e = e' := congrArg (fun x => x.2.2) hn
    exact absurd (h2.trans h) he
theorem numS_any (lo hi : Int) (L : List Nat) (er v : Int) (L' : List Nat) (er' : Int) (hn : numS lo hi (L, er) = (v, L', er')) (hL : InOk L) (W : World) (gi : Nat) (hb : Hid (Fw.Box W gi L er)) :
    Calls Tryd.prog 62 #[.pointer (some ⟨gi, 0, none⟩), .int .i64 lo, .int .i64 hi] W fun e w' => e = .returned (.int .i64 v) ∧ Hid (Fw.Box w' gi L' er') ∧ Below gi W w' := by
  by_cases he : er = 0
  · subst he
    rw [numS_go] at hn
    have h1 : (Fw.rdB lo hi L).1 = v := congrArg (fun x => x.1) hn
    have h2 : L.drop (Fw.rdB lo hi L).2.1 = L' := congrArg (fun x => x.2.1) hn
    have h3 : (Fw.rdB lo hi L).2.2 = er' := congrArg (fun x => x.2.2) hn
    have := Fw.inNum_any gi L lo hi hL.1 hL.2 W hb
    rw [h1, h2, h3] at this
    exact this.mono fun e w' ⟨a, b, c⟩ => ⟨a, Lib.hid b, c⟩
  · rw [numS_stop lo hi L er he] at hn
    have h1 : (0 : Int) = v := congrArg (fun x => x.1) hn
    have h2 : L = L' := congrArg (fun x => x.2.1) hn
    have h3 : er = er' := congrArg (fun x => x.2.2) hn
    subst h1 h2 h3
    refine (Fw.inNum_err gi L er lo hi he W hb).mono ?_
    rintro e w' ⟨rfl, rfl⟩
    exact ⟨rfl, hb, Below.refl _ _⟩
/-- what a record's first sector tells: how many bytes, their sum, an error -/
def hd4 (A : List Nat) (ag nr room : Int) : Int × Int × Int :=
  ((numS 0 room (numS nr nr (numS ag ag (A.drop 1, 0)).2).2).1, (numS 0 4294967295 (numS 0 room (numS nr nr (numS ag ag (A.drop 1, 0)).2).2).2).1, (numS 0 4294967295 (numS 0 room (numS nr nr (numS ag ag (A.drop 1, 0)).2).2).2).2.2)
instance (ns : List ByteArray) (p n : Nat) : Decidable (PartsOk ns p n) := by unfold PartsOk; infer_instance
/-- what read tells -/
def readS (ns : List ByteArray) (p en : Nat) (ag nr : Int) : Option (List Nat) :=
  if p = en then none
  else if (hd4 (sb ns p) ag nr (roomI p en)).2.2 = 0 ∧ sb ns p = padL (firstL ag nr (hd4 (sb ns p) ag nr (roomI p en)).1 (hd4 (sb ns p) ag nr (roomI p en)).2.1) ∧ PartsOk ns p (hd4 (sb ns p) ag nr (roomI p en)).1.toNat ∧ ((Fc.crcOf (buf ns p (hd4 (sb ns p) ag nr (roomI p en)).1.toNat (nparts (hd4 (sb ns p) ag nr (roomI p en)).1.toNat)) : Nat) : Int) = (hd4 (sb ns p) ag nr (roomI p en)).2.1
    then some (buf ns p (hd4 (sb ns p) ag nr (roomI p en)).1.toNat (nparts (hd4 (sb ns p) ag nr (roomI p en)).1.toNat)) else none
theorem crc_lt (L : List Nat) : Fc.crcOf L < 4294967296 := by unfold Fc.crcOf; omega
theorem sum_one (W : World) (gs gr n cr : Nat) (L : List Nat) (hL : L.length = n) (hn : n ≤ 1000000) (hB : ∀ b ∈ L, b < 256) (ht : Hid (Fc.Tab W)) (hc : W.cell? ⟨gs, 0, none⟩ = some (.slice (some ⟨gr, 0, none⟩) n cr)) (hs : Fc.Src W (some ⟨gr, 0, none⟩) L) :
    Calls Tryd.prog 57 #[.slice (some ⟨gs, 0, none⟩) 1 1] W fun e w' => e = .returned (.int .u32 ((Fc.crcOf L : Nat) : Int)) ∧ W = w' := by
  have e : Fc.all [(some ⟨gr, 0, none⟩, cr, L)] = L := by simp [Fc.all]
  have h := Fc.sum_any gs 0 1 [(some ⟨gr, 0, none⟩, cr, L)] (by simp) (fun p hp => by
    rw [List.mem_singleton] at hp; subst hp; exact ⟨by show L.length ≤ 1000000; omega, hB⟩) W ht (Lib.hid fun i p hp => by
    match i, hp with
    | 0, hp =>
      simp at hp; subst hp
      exact ⟨by rw [hL]; exact hc, hs⟩
    | n + 1, hp => simp at hp)
  rw [e] at h
  exact h
theorem first_len (a n c x : Int) (ha : Fw.IntOk a) (hn : Fw.IntOk n) (hc : Fw.IntOk c) (hx : Fw.IntOk x) : (firstL a n c x).length ≤ 512 := by
  have h1 := Fw.vb_ten _ (Fw.zz_lt a ha.1 ha.2)
  have h2 := Fw.vb_ten _ (Fw.zz_lt n hn.1 hn.2)
  have h3 := Fw.vb_ten _ (Fw.zz_lt c hc.1 hc.2)
  have h4 := Fw.vb_ten _ (Fw.zz_lt x hx.1 hx.2)
  unfold firstL closeL
  simp only [List.length_append, List.length_cons, List.length_nil, Fc.four]
  omega
theorem first_byte (a n c x : Int) : ∀ b ∈ firstL a n c x, b < 256 := by
  intro b hb
  unfold firstL closeL at hb
  simp only [List.mem_append] at hb
  rcases hb with h | (((h | h) | h) | h) | h
  · simp at h; omega
  · exact Fw.vb_byte _ b h
  · exact Fw.vb_byte _ b h
  · exact Fw.vb_byte _ b h
  · exact Fw.vb_byte _ b h
  · exact Fc.four_byte _ b h
set_option maxHeartbeats 4000000 in
theorem read_any {B : Nat} {w : World} {g L k l : Nat} {ns : List ByteArray} {fs nr ag hd fl : Int} (h : Dq B w g L ns k) (hf : Full ns) (p en : Nat) (hpe : p ≤ en) (hen : en ≤ L) (hL : L ≤ 190) (hag : Fw.IntOk ag) (hnr : Fw.IntOk nr) (hlog : LogAt w l g fs (en : Int) (p : Int) nr ag hd fl) (ht : Hid (Fc.Tab w)) :
    Calls Tryd.prog 39 #[.pointer (some ⟨l, 0, none⟩)] w fun e w' => ((∃ b gr cr, readS ns p en ag nr = some b ∧ (b.length : Int) ≤ roomI p en ∧ (∀ x ∈ b, x < 256) ∧ e = .returned (.tuple #[.slice (some ⟨gr, 0, none⟩) b.length cr, .bool true, .int .i64 0]) ∧ Hid (w.heap.size ≤ gr) ∧ Hid (Fc.Src w' (some ⟨gr, 0, none⟩) b)) ∨ (readS ns p en ag nr = none ∧ e = .returned (.tuple #[.slice none 0 0, .bool false, .int .i64 0]))) ∧ Hid (Below w.heap.size w w') := by
  by_cases hpen : p = en
  · subst hpen
    have hr : readS ns p p ag nr = none := if_pos rfl
    obtain ⟨c0, c1, c2, c3, c4, c5, c6, c7⟩ := log_cells hlog
    clear c0 c1 c4 c5 c6 c7 h hlog
    go_enter Tryd.func39, Tryd.ntmps39
    go_wp2_with fail
    go_quiet (fail)
    go_wp2_with fail
    go_ret3
    exact ⟨.inr ⟨hr, rfl⟩, Lib.hid (Fc.below_drewN (Below.refl _ _) _)⟩
  have hpe2 : ((p : Int) == (en : Int)) = false := by simp; omega
  have hnsL := dq_len h
  obtain ⟨hsec, hAl, hAb⟩ := sb_get hf p (by omega)
  obtain ⟨rm, hrm⟩ : ∃ rm, roomI p en = rm := ⟨_, rfl⟩
  have hrm1 : rm = ((en : Int) - p - 1) * 511 := by
    rw [← hrm]; unfold roomI; rw [if_neg hpen]; omega
  obtain ⟨A, hA⟩ : ∃ A, sb ns p = A := ⟨_, rfl⟩
  rw [hA] at hsec hAl hAb
  obtain ⟨v1, L1, e1, n1⟩ : ∃ v L e, numS ag ag (A.drop 1, 0) = (v, L, e) := ⟨_, _, _, rfl⟩
  obtain ⟨v2, L2, e2, n2⟩ : ∃ v L e, numS nr nr (L1, e1) = (v, L, e) := ⟨_, _, _, rfl⟩
  obtain ⟨cnt, L3, e3, n3⟩ : ∃ v L e, numS 0 rm (L2, e2) = (v, L, e) := ⟨_, _, _, rfl⟩
  obtain ⟨sm, L4, e4, n4⟩ : ∃ v L e, numS 0 4294967295 (L3, e3) = (v, L, e) := ⟨_, _, _, rfl⟩
  have i0 : InOk (A.drop 1) := ⟨by rw [List.length_drop, hAl]; decide, drop_byte hAb 1⟩
  have i1 := numS_ok i0 n1
  have i2 := numS_ok i1 n2
  have i3 := numS_ok i2 n3
  have b3 := numS_int i2 n3
  have b4 := numS_int i3 n4
  have hd : hd4 (sb ns p) ag nr rm = (cnt, sm, e4) := by rw [hA]; simp only [hd4, n1, n2, n3, n4]
  have HRS : Hid (True → readS ns p en ag nr = if e4 = 0 ∧ A = padL (firstL ag nr cnt sm) ∧ PartsOk ns p cnt.toNat ∧ ((Fc.crcOf (buf ns p cnt.toNat (nparts cnt.toNat)) : Nat) : Int) = sm then some (buf ns p cnt.toNat (nparts cnt.toNat)) else none) := Lib.hid fun _ => by
    unfold readS
    rw [if_neg hpen, hrm, hd, hA]
  have HIN : Hid (e4 = 0 → 0 ≤ cnt ∧ cnt ≤ rm) := Lib.hid fun h => by
    have h1 := numS_in n4 h
    have h2 := numS_in n3 h1.1
    exact h2.2
  have HF1 : Hid (∀ n : Nat, (n : Int) ≤ rm → p + 1 + nparts n ≤ L ∧ n ≤ 100000) := Lib.hid fun n hn => by unfold nparts; omega
  have HBl : Hid (∀ n : Nat, (n : Int) ≤ rm → (buf ns p n (nparts n)).length = n) := Lib.hid fun n hn => by
    have h1 := HF1.out n hn
    rw [buf_len hf p n (nparts n) (by omega)]
    unfold nparts; omega
  have H0 := Lib.hid h
  have HLg := Lib.hid hlog
  have HN1 := Lib.hid (fun W gi hb => numS_any ag ag _ _ _ _ _ n1 i0 W gi hb)
  have HN2 := Lib.hid (fun W gi hb => numS_any nr nr _ _ _ _ _ n2 i1 W gi hb)
  have HN3 := Lib.hid (fun W gi hb => numS_any 0 rm _ _ _ _ _ n3 i2 W gi hb)
  have HN4 := Lib.hid (fun W gi hb => numS_any 0 4294967295 _ _ _ _ _ n4 i3 W gi hb)
  have HOp := Lib.hid (fun W gz c (hs : Fc.Src W (some ⟨gz, 0, none⟩) A) => open_sec A hAl 1 511 rfl W gz c hs)
  have HFs := Lib.hid (fun W (hW : Hid (Fc.Tab W)) => firstS_any ag nr cnt sm hag hnr b3 b4 W hW)
  have HEq := Lib.hid (fun W ga ca gb hs hr => eq_sec A (firstL ag nr cnt sm) hAl hAb (first_len ag nr cnt sm hag hnr b3 b4) (first_byte ag nr cnt sm) W ga ca gb hs hr)
  have HRm := Lib.hid (fun W (hb : Below w.heap.size w W) => room_any p en hpe (by omega) (log_below hlog hb))
  rw [hrm] at HRm
  have HRd : Hid (∀ W, Below w.heap.size w W → Calls Tryd.prog 31 #[.pointer (some ⟨g, 0, none⟩), .int .i64 (p : Int)] W fun e w' => ∃ cap, e = .returned (.tuple #[.slice (some ⟨W.heap.size, 0, none⟩) 512 cap, .int .i64 0]) ∧ 512 ≤ cap ∧ Fc.Src w' (some ⟨W.heap.size, 0, none⟩) A ∧ Below W.heap.size W w') := Lib.hid fun W hb => by
    have hsz : (Fw.sv A).size = 512 := by rw [Fw.sv_size, hAl]
    refine (dq_read2 (dq_below h hb) (p : Int) p rfl (by omega) _ hsec).mono ?_
    rintro e w' ⟨cap, rfl, a0, a1, a2, a3⟩
    rw [hsz] at a0
    rw [bytesOf_sv _ hAb] at a1
    rw [hsz]
    exact ⟨cap, rfl, a0, a1, a3⟩
  have HC0 := Lib.hid (fun W (hb : Below w.heap.size w W) => (log_cells (log_below hlog hb)).1)
  have HC3 := Lib.hid (fun W (hb : Below w.heap.size w W) => (log_cells (log_below hlog hb)).2.2.2.1)
  have HC4 := Lib.hid (fun W (hb : Below w.heap.size w W) => (log_cells (log_below hlog hb)).2.2.2.2.1)
  have HC5 := Lib.hid (fun W (hb : Below w.heap.size w W) => (log_cells (log_below hlog hb)).2.2.2.2.2.1)
  have HRM := Lib.hid (fun _ : True => hrm)
  obtain ⟨c0, c1, c2, c3, c4, c5, c6, c7⟩ := log_cells hlog
  clear c0 c1 c4 c5 c6 c7 h hlog n1 n2 n3 n4 i0 i1 i2 i3 b3 b4 hd hsec hAl hAb hA hnsL hrm hrm1 hpen
  go_enter Tryd.func39, Tryd.ntmps39
  go_wp2_with fail
  go_quiet (fail)
  have hbA := Lib.hid (Fc.below_drewN (Below.refl w.heap.size w) nq)
  generalize w.drewN nq = wA at *
  go_wp2_with fail
  let R : World → World → Prop := fun W W2 => Below W.heap.size W W2
  let V : Nat → Value → World → Prop := fun jX v W => match jX with | 0 => v = .pointer (some ⟨l, 0, none⟩) | 1 => v = .pointer (some ⟨l, 0, none⟩) | 2 => v = .pointer (some ⟨l, 0, none⟩) | 3 => v = .pointer (some ⟨g, 0, none⟩) | 4 => v = .pointer (some ⟨l, 0, none⟩) | 5 => v = .pointer (some ⟨l, 0, none⟩) | 6 => v = .pointer (some ⟨l, 3, none⟩) | 7 => v = .int .i64 (p : Int) | 8 => ∃ ga ca, v = .tuple #[.slice (some ⟨ga, 0, none⟩) 512 ca, .int .i64 0] ∧ wA.heap.size ≤ ga ∧ 512 ≤ ca ∧ Fc.Src W (some ⟨ga, 0, none⟩) A | 9 => ∃ gb cb, v = .tuple #[.slice (some ⟨gb, 0, none⟩) 512 cb, .int .i64 0] ∧ wA.heap.size ≤ gb ∧ 512 ≤ cb ∧ Fc.Src W (some ⟨gb, 0, none⟩) A | 10 => ∃ gc cc, v = .slice (some ⟨gc, 0, none⟩) 512 cc ∧ wA.heap.size ≤ gc ∧ 512 ≤ cc ∧ Fc.Src W (some ⟨gc, 0, none⟩) A | 11 => v = .int .i64 0 | 12 => ∃ gd cd, v = .slice (some ⟨gd, 0, none⟩) 512 cd ∧ wA.heap.size ≤ gd ∧ 512 ≤ cd ∧ Fc.Src W (some ⟨gd, 0, none⟩) A | 13 => v = .int .i64 0 | _ => True
  refine wp_region_fill (by kernel_rfl) V (fun W => Below wA.heap.size wA W) R (by kernel_rfl) (by kernel_rfl) ((Below.refl _ _).drew) (fun W W2 hr hi => hi.trans (hr.mono hi.size)) ?_ ?_ ?_
  · intro jX v W W2 hr h
    match jX, h with
    | 0, h => exact h
    | 1, h => exact h
    | 2, h => exact h
    | 3, h => exact h
    | 4, h => exact h
    | 5, h => exact h
    | 6, h => exact h
    | 7, h => exact h
    | 8, h => obtain ⟨ga, ca, h1, h2⟩ := h; exact ⟨ga, ca, h1, ⟨h2.1, h2.2.1, Fc.src_later h2.2.2 hr⟩⟩
    | 9, h => obtain ⟨gb, cb, h1, h2⟩ := h; exact ⟨gb, cb, h1, ⟨h2.1, h2.2.1, Fc.src_later h2.2.2 hr⟩⟩
    | 10, h => obtain ⟨gc, cc, h1, h2⟩ := h; exact ⟨gc, cc, h1, ⟨h2.1, h2.2.1, Fc.src_later h2.2.2 hr⟩⟩
    | 11, h => exact h
    | 12, h => obtain ⟨gd, cd, h1, h2⟩ := h; exact ⟨gd, cd, h1, ⟨h2.1, h2.2.1, Fc.src_later h2.2.2 hr⟩⟩
    | 13, h => exact h
    | nX + 14, h => exact h
  · intro iX o ho a W hN hi h
    match iX, ho with
    | 0, ho =>
      obtain rfl := Option.some.inj (show some _ = some o from ho)
      have e0 : a.eval (.tmp 0) = .pointer (some ⟨l, 0, none⟩) := hN.eval 0 (by kernel_rfl)
      refine fill_value (v := .pointer (some ⟨l, 0, none⟩)) ho rfl (by rfl) (by clear h hN; have hcst : ∀ v, a.eval (.const v) = v := (fun _ => rfl); have hfun : ∀ f, a.eval (.func f) = .func (.func f) #[] #[] := (fun _ => rfl); generalize a.eval = ρ at *; go_simp) rfl (Below.refl _ _)
    | 1, ho =>
      obtain rfl := Option.some.inj (show some _ = some o from ho)
      have e22 : a.eval (.tmp 22) = .pointer (some ⟨l, 0, none⟩) := h ⟨0, .data⟩ (by simp) rfl
      refine fill_value (v := .pointer (some ⟨l, 0, none⟩)) ho rfl (by rfl) (by clear h hN; have hcst : ∀ v, a.eval (.const v) = v := (fun _ => rfl); have hfun : ∀ f, a.eval (.func f) = .func (.func f) #[] #[] := (fun _ => rfl); generalize a.eval = ρ at *; go_simp) rfl (Below.refl _ _)
    | 2, ho =>
      obtain rfl := Option.some.inj (show some _ = some o from ho)
      have e23 : a.eval (.tmp 23) = .pointer (some ⟨l, 0, none⟩) := h ⟨1, .data⟩ (by simp) rfl
      refine fill_value (v := .pointer (some ⟨l, 0, none⟩)) ho rfl (by rfl) (by clear h hN; have hcst : ∀ v, a.eval (.const v) = v := (fun _ => rfl); have hfun : ∀ f, a.eval (.func f) = .func (.func f) #[] #[] := (fun _ => rfl); generalize a.eval = ρ at *; go_simp) rfl (Below.refl _ _)
    | 3, ho =>
      obtain rfl := Option.some.inj (show some _ = some o from ho)
      have e24 : a.eval (.tmp 24) = .pointer (some ⟨l, 0, none⟩) := h ⟨2, .data⟩ (by simp) rfl
      have hc := HC0.out W (hbA.out.trans (hi.mono hbA.out.size))
      refine fill_value (v := .pointer (some ⟨g, 0, none⟩)) ho rfl (by rfl) (by clear h hN; have hcst : ∀ v, a.eval (.const v) = v := (fun _ => rfl); have hfun : ∀ f, a.eval (.func f) = .func (.func f) #[] #[] := (fun _ => rfl); generalize a.eval = ρ at *; go_simp) rfl (Below.refl _ _)
    | 4, ho =>
      obtain rfl := Option.some.inj (show some _ = some o from ho)
      have e0 : a.eval (.tmp 0) = .pointer (some ⟨l, 0, none⟩) := hN.eval 0 (by kernel_rfl)
      refine fill_value (v := .pointer (some ⟨l, 0, none⟩)) ho rfl (by rfl) (by clear h hN; have hcst : ∀ v, a.eval (.const v) = v := (fun _ => rfl); have hfun : ∀ f, a.eval (.func f) = .func (.func f) #[] #[] := (fun _ => rfl); generalize a.eval = ρ at *; go_simp) rfl (Below.refl _ _)
    | 5, ho =>
      obtain rfl := Option.some.inj (show some _ = some o from ho)
      have e26 : a.eval (.tmp 26) = .pointer (some ⟨l, 0, none⟩) := h ⟨4, .data⟩ (by simp) rfl
      refine fill_value (v := .pointer (some ⟨l, 0, none⟩)) ho rfl (by rfl) (by clear h hN; have hcst : ∀ v, a.eval (.const v) = v := (fun _ => rfl); have hfun : ∀ f, a.eval (.func f) = .func (.func f) #[] #[] := (fun _ => rfl); generalize a.eval = ρ at *; go_simp) rfl (Below.refl _ _)
    | 6, ho =>
      obtain rfl := Option.some.inj (show some _ = some o from ho)
      have e27 : a.eval (.tmp 27) = .pointer (some ⟨l, 0, none⟩) := h ⟨5, .data⟩ (by simp) rfl
      refine fill_value (v := .pointer (some ⟨l, 3, none⟩)) ho rfl (by rfl) (by clear h hN; have hcst : ∀ v, a.eval (.const v) = v := (fun _ => rfl); have hfun : ∀ f, a.eval (.func f) = .func (.func f) #[] #[] := (fun _ => rfl); generalize a.eval = ρ at *; go_simp) rfl (Below.refl _ _)
    | 7, ho =>
      obtain rfl := Option.some.inj (show some _ = some o from ho)
      have e28 : a.eval (.tmp 28) = .pointer (some ⟨l, 3, none⟩) := h ⟨6, .data⟩ (by simp) rfl
      have hc := HC3.out W (hbA.out.trans (hi.mono hbA.out.size))
      refine fill_value (v := .int .i64 (p : Int)) ho rfl (by rfl) (by clear h hN; have hcst : ∀ v, a.eval (.const v) = v := (fun _ => rfl); have hfun : ∀ f, a.eval (.func f) = .func (.func f) #[] #[] := (fun _ => rfl); generalize a.eval = ρ at *; go_simp) rfl (Below.refl _ _)
    | 8, ho =>
      obtain rfl := Option.some.inj (show some _ = some o from ho)
      have e25 : a.eval (.tmp 25) = .pointer (some ⟨g, 0, none⟩) := h ⟨3, .data⟩ (by simp) rfl
      have e29 : a.eval (.tmp 29) = .int .i64 (p : Int) := h ⟨7, .data⟩ (by simp) rfl
      refine fill_enter (f := 31) (args := #[.pointer (some ⟨g, 0, none⟩), .int .i64 (p : Int)]) ho rfl (by rfl) (by clear h hN; have hcst : ∀ v, a.eval (.const v) = v := (fun _ => rfl); have hfun : ∀ f, a.eval (.func f) = .func (.func f) #[] #[] := (fun _ => rfl); generalize a.eval = ρ at *; go_simp) (HRd.out W (hbA.out.trans (hi.mono hbA.out.size))) ?_
      rintro e w2 ⟨cp, rfl, h4, h5, h6⟩
      exact ⟨_, rfl, ⟨_, cp, rfl, hi.size, h4, h5⟩, h6⟩
    | 9, ho =>
      obtain rfl := Option.some.inj (show some _ = some o from ho)
      obtain ⟨ga, ca, e30, p30⟩ : ∃ ga ca, a.eval (.tmp 30) = .tuple #[.slice (some ⟨ga, 0, none⟩) 512 ca, .int .i64 0] ∧ wA.heap.size ≤ ga ∧ 512 ≤ ca ∧ Fc.Src W (some ⟨ga, 0, none⟩) A := h ⟨8, .data⟩ (by simp) rfl
      refine fill_value (v := .tuple #[.slice (some ⟨ga, 0, none⟩) 512 ca, .int .i64 0]) ho rfl (by rfl) (by clear h hN; have hcst : ∀ v, a.eval (.const v) = v := (fun _ => rfl); have hfun : ∀ f, a.eval (.func f) = .func (.func f) #[] #[] := (fun _ => rfl); generalize a.eval = ρ at *; go_simp) ⟨ga, ca, rfl, p30⟩ (Below.refl _ _)
    | 10, ho =>
      obtain rfl := Option.some.inj (show some _ = some o from ho)
      obtain ⟨gb, cb, e21, p21⟩ : ∃ gb cb, a.eval (.tmp 21) = .tuple #[.slice (some ⟨gb, 0, none⟩) 512 cb, .int .i64 0] ∧ wA.heap.size ≤ gb ∧ 512 ≤ cb ∧ Fc.Src W (some ⟨gb, 0, none⟩) A := h ⟨9, .data⟩ (by simp) rfl
      refine fill_value (v := .slice (some ⟨gb, 0, none⟩) 512 cb) ho rfl (by rfl) (by clear h hN; have hcst : ∀ v, a.eval (.const v) = v := (fun _ => rfl); have hfun : ∀ f, a.eval (.func f) = .func (.func f) #[] #[] := (fun _ => rfl); generalize a.eval = ρ at *; go_simp) ⟨gb, cb, rfl, p21⟩ (Below.refl _ _)
    | 11, ho =>
      obtain rfl := Option.some.inj (show some _ = some o from ho)
      obtain ⟨gb, cb, e21, p21⟩ : ∃ gb cb, a.eval (.tmp 21) = .tuple #[.slice (some ⟨gb, 0, none⟩) 512 cb, .int .i64 0] ∧ wA.heap.size ≤ gb ∧ 512 ≤ cb ∧ Fc.Src W (some ⟨gb, 0, none⟩) A := h ⟨9, .data⟩ (by simp) rfl
      refine fill_value (v := .int .i64 0) ho rfl (by rfl) (by clear h hN; have hcst : ∀ v, a.eval (.const v) = v := (fun _ => rfl); have hfun : ∀ f, a.eval (.func f) = .func (.func f) #[] #[] := (fun _ => rfl); generalize a.eval = ρ at *; go_simp) rfl (Below.refl _ _)
    | 12, ho =>
      obtain rfl := Option.some.inj (show some _ = some o from ho)
      obtain ⟨gc, cc, e31, p31⟩ : ∃ gc cc, a.eval (.tmp 31) = .slice (some ⟨gc, 0, none⟩) 512 cc ∧ wA.heap.size ≤ gc ∧ 512 ≤ cc ∧ Fc.Src W (some ⟨gc, 0, none⟩) A := h ⟨10, .data⟩ (by simp) rfl
      refine fill_value (v := .slice (some ⟨gc, 0, none⟩) 512 cc) ho rfl (by rfl) (by clear h hN; have hcst : ∀ v, a.eval (.const v) = v := (fun _ => rfl); have hfun : ∀ f, a.eval (.func f) = .func (.func f) #[] #[] := (fun _ => rfl); generalize a.eval = ρ at *; go_simp) ⟨gc, cc, rfl, p31⟩ (Below.refl _ _)
    | 13, ho =>
      obtain rfl := Option.some.inj (show some _ = some o from ho)
      have e32 : a.eval (.tmp 32) = .int .i64 0 := h ⟨11, .data⟩ (by simp) rfl
      refine fill_value (v := .int .i64 0) ho rfl (by rfl) (by clear h hN; have hcst : ∀ v, a.eval (.const v) = v := (fun _ => rfl); have hfun : ∀ f, a.eval (.func f) = .func (.func f) #[] #[] := (fun _ => rfl); generalize a.eval = ρ at *; go_simp) rfl (Below.refl _ _)
    | nX + 14, ho => exact absurd ho (by simp)
  · intro vals W hi h
    have u0 : vals 0 = .pointer (some ⟨l, 0, none⟩) := h 0 (by decide)
    have u1 : vals 1 = .pointer (some ⟨l, 0, none⟩) := h 1 (by decide)
    have u2 : vals 2 = .pointer (some ⟨l, 0, none⟩) := h 2 (by decide)
    have u3 : vals 3 = .pointer (some ⟨g, 0, none⟩) := h 3 (by decide)
    have u4 : vals 4 = .pointer (some ⟨l, 0, none⟩) := h 4 (by decide)
    have u5 : vals 5 = .pointer (some ⟨l, 0, none⟩) := h 5 (by decide)
    have u6 : vals 6 = .pointer (some ⟨l, 3, none⟩) := h 6 (by decide)
    have u7 : vals 7 = .int .i64 (p : Int) := h 7 (by decide)
    obtain ⟨ga, ca, u8, p8⟩ : ∃ ga ca, vals 8 = .tuple #[.slice (some ⟨ga, 0, none⟩) 512 ca, .int .i64 0] ∧ wA.heap.size ≤ ga ∧ 512 ≤ ca ∧ Fc.Src W (some ⟨ga, 0, none⟩) A := h 8 (by decide)
    obtain ⟨gb, cb, u9, p9⟩ : ∃ gb cb, vals 9 = .tuple #[.slice (some ⟨gb, 0, none⟩) 512 cb, .int .i64 0] ∧ wA.heap.size ≤ gb ∧ 512 ≤ cb ∧ Fc.Src W (some ⟨gb, 0, none⟩) A := h 9 (by decide)
    obtain ⟨gc, cc, u10, p10⟩ : ∃ gc cc, vals 10 = .slice (some ⟨gc, 0, none⟩) 512 cc ∧ wA.heap.size ≤ gc ∧ 512 ≤ cc ∧ Fc.Src W (some ⟨gc, 0, none⟩) A := h 10 (by decide)
    have u11 : vals 11 = .int .i64 0 := h 11 (by decide)
    obtain ⟨gd, cd, u12, p12⟩ : ∃ gd cd, vals 12 = .slice (some ⟨gd, 0, none⟩) 512 cd ∧ wA.heap.size ≤ gd ∧ 512 ≤ cd ∧ Fc.Src W (some ⟨gd, 0, none⟩) A := h 12 (by decide)
    have u13 : vals 13 = .int .i64 0 := h 13 (by decide)
    generalize hA : fill _ _ _ _ = A
    have hA2 : (Act.put (Act.put (Act.put (Act.put (Act.put (Act.put (Act.put (Act.put (Act.put (Act.put (Act.put (Act.put (Act.put (Act.put (_ : Act) (some 22) (vals 0)) (some 23) (vals 1)) (some 24) (vals 2)) (some 25) (vals 3)) (some 26) (vals 4)) (some 27) (vals 5)) (some 28) (vals 6)) (some 29) (vals 7)) (some 30) (vals 8)) (some 21) (vals 9)) (some 31) (vals 10)) (some 32) (vals 11)) (some 5) (vals 12)) (some 6) (vals 13)) = A := hA
    clear hA h V R
    rw [u0, u1, u2, u3, u4, u5, u6, u7, u8, u9, u10, u11, u12, u13] at hA2
    simp only [fill, Act.put, List.setIfInBounds_toArray, List.set_cons_succ, List.set_cons_zero] at hA2
    subst hA2
    clear u0 u1 u2 u3 u4 u5 u6 u7 u8 u9 u10 u11 u12 u13
    have hcd := p12.2.1
    obtain ⟨wB, hwB⟩ : ∃ x, x = W := ⟨_, rfl⟩
    subst hwB
    have HS := Lib.hid p12.2.2
    have HBB := Lib.hid (hbA.out.trans (hi.mono hbA.out.size))
    clear p8 p9 p10 p12 hi hbA
    have hcd2 : (1 : Int) ≤ (cd : Int) := by omega
    have hcd3 : ¬ cd = 1 := by omega
    have hcd4 : ¬ cd - 1 = 0 := by omega
    go_wp2_with fail
    refine (HOp.out wB gd (cd - 1) HS.out).mono ?_
    rintro e w3 ⟨gi, rfl, hgi, hbx, hb3⟩
    have HX := Lib.hid hbx
    have HB3 := Lib.hid hb3
    clear hbx hb3
    have HD5 := Lib.hid (fun W (hb : Below wB.heap.size wB W) => HC5.out W (HBB.out.trans (hb.mono HBB.out.size)))
    have HD4 := Lib.hid (fun W (hb : Below wB.heap.size wB W) => HC4.out W (HBB.out.trans (hb.mono HBB.out.size)))
    have HDR := Lib.hid (fun W (hb : Below wB.heap.size wB W) => HRm.out W (HBB.out.trans (hb.mono HBB.out.size)))
    go_wp2_with fail
    let U : Nat → World → Prop := fun jX W => match jX with | 0 => True | 1 => True | 2 => True | 3 => True | 4 => True | 5 => True | 6 => True | 7 => True | 8 => True | 9 => Fw.Box W gi (A.drop 1) 0 | _ => True
    let R : Nat → World → World → Prop := fun jX W W2 => match jX with | 0 => W = W2 | 1 => W = W2 | 2 => W = W2 | 3 => W = W2 | 4 => W = W2 | 5 => W = W2 | 6 => W = W2 | 7 => W = W2 | 8 => W = W2 | 9 => Below gi W W2 | _ => W = W2
    let V : Nat → Value → World → Prop := fun jX v W => match jX with | 0 => v = .pointer (some ⟨gi, 0, none⟩) | 1 => v = .pointer (some ⟨l, 0, none⟩) | 2 => v = .pointer (some ⟨l, 0, none⟩) | 3 => v = .pointer (some ⟨l, 5, none⟩) | 4 => v = .int .i64 ag | 5 => v = .pointer (some ⟨l, 0, none⟩) | 6 => v = .pointer (some ⟨l, 0, none⟩) | 7 => v = .pointer (some ⟨l, 5, none⟩) | 8 => v = .int .i64 ag | 9 => v = .int .i64 v1 ∧ Fw.Box W gi L1 e1 | _ => True
    refine wp_region_fill2 (by kernel_rfl) U V (fun W => Below wB.heap.size wB W) R (by kernel_rfl) (by kernel_rfl) (HB3.out.trans ((Below.refl _ _).drew)) ?_ ?_ ?_ ?_ ?_ ?_
    · intro jX
      match jX with
      | 0 => exact trivial
      | 1 => exact trivial
      | 2 => exact trivial
      | 3 => exact trivial
      | 4 => exact trivial
      | 5 => exact trivial
      | 6 => exact trivial
      | 7 => exact trivial
      | 8 => exact trivial
      | 9 => exact Fw.box_later HX.out ((Below.refl _ _).drew)
      | nX + 10 => exact trivial
    · intro iX W W2 hr hi
      match iX, hr with
      | 0, hr => exact (show W = W2 from hr) ▸ hi
      | 1, hr => exact (show W = W2 from hr) ▸ hi
      | 2, hr => exact (show W = W2 from hr) ▸ hi
      | 3, hr => exact (show W = W2 from hr) ▸ hi
      | 4, hr => exact (show W = W2 from hr) ▸ hi
      | 5, hr => exact (show W = W2 from hr) ▸ hi
      | 6, hr => exact (show W = W2 from hr) ▸ hi
      | 7, hr => exact (show W = W2 from hr) ▸ hi
      | 8, hr => exact (show W = W2 from hr) ▸ hi
      | 9, hr => exact hi.trans (Below.mono hr hgi)
      | nX + 10, hr => exact (show W = W2 from hr) ▸ hi
    · intro iX jX W W2 hij hi hui hr h
      match iX, hij, hui, hr with
      | 0, hij, hui, hr => exact (show W = W2 from hr) ▸ h
      | 1, hij, hui, hr => exact (show W = W2 from hr) ▸ h
      | 2, hij, hui, hr => exact (show W = W2 from hr) ▸ h
      | 3, hij, hui, hr => exact (show W = W2 from hr) ▸ h
      | 4, hij, hui, hr => exact (show W = W2 from hr) ▸ h
      | 5, hij, hui, hr => exact (show W = W2 from hr) ▸ h
      | 6, hij, hui, hr => exact (show W = W2 from hr) ▸ h
      | 7, hij, hui, hr => exact (show W = W2 from hr) ▸ h
      | 8, hij, hui, hr => exact (show W = W2 from hr) ▸ h
      | 9, hij, hui, hr =>
        match jX, hij, h with
        | 0, hij, h => exact h
        | 1, hij, h => exact h
        | 2, hij, h => exact h
        | 3, hij, h => exact h
        | 4, hij, h => exact h
        | 5, hij, h => exact h
        | 6, hij, h => exact h
        | 7, hij, h => exact h
        | 8, hij, h => exact h
        | 9, hij, h => exact absurd rfl hij
        | nX + 10, hij, h => exact h
      | nX + 10, hij, hui, hr => exact (show W = W2 from hr) ▸ h
    · intro iX jX v W W2 hij hi hui hr h
      match iX, hij, hui, hr with
      | 0, hij, hui, hr => exact (show W = W2 from hr) ▸ h
      | 1, hij, hui, hr => exact (show W = W2 from hr) ▸ h
      | 2, hij, hui, hr => exact (show W = W2 from hr) ▸ h
      | 3, hij, hui, hr => exact (show W = W2 from hr) ▸ h
      | 4, hij, hui, hr => exact (show W = W2 from hr) ▸ h
      | 5, hij, hui, hr => exact (show W = W2 from hr) ▸ h
      | 6, hij, hui, hr => exact (show W = W2 from hr) ▸ h
      | 7, hij, hui, hr => exact (show W = W2 from hr) ▸ h
      | 8, hij, hui, hr => exact (show W = W2 from hr) ▸ h
      | 9, hij, hui, hr =>
        match jX, hij, h with
        | 0, hij, h => exact h
        | 1, hij, h => exact h
        | 2, hij, h => exact h
        | 3, hij, h => exact h
        | 4, hij, h => exact h
        | 5, hij, h => exact h
        | 6, hij, h => exact h
        | 7, hij, h => exact h
        | 8, hij, h => exact h
        | 9, hij, h => exact absurd rfl hij
        | nX + 10, hij, h => exact h
      | nX + 10, hij, hui, hr => exact (show W = W2 from hr) ▸ h
    · intro iX o ho a W hN hi hui h
      match iX, ho, hui with
      | 0, ho, hui =>
        obtain rfl := Option.some.inj (show some _ = some o from ho)
        have e7 : a.eval (.tmp 7) = .pointer (some ⟨gi, 0, none⟩) := hN.eval 7 (by kernel_rfl)
        refine fill_value (v := .pointer (some ⟨gi, 0, none⟩)) ho rfl (by rfl) (by clear h hN; have hcst : ∀ v, a.eval (.const v) = v := (fun _ => rfl); have hfun : ∀ f, a.eval (.func f) = .func (.func f) #[] #[] := (fun _ => rfl); generalize a.eval = ρ at *; go_simp) rfl (show W = W from rfl)
      | 1, ho, hui =>
        obtain rfl := Option.some.inj (show some _ = some o from ho)
        have e0 : a.eval (.tmp 0) = .pointer (some ⟨l, 0, none⟩) := hN.eval 0 (by kernel_rfl)
        refine fill_value (v := .pointer (some ⟨l, 0, none⟩)) ho rfl (by rfl) (by clear h hN; have hcst : ∀ v, a.eval (.const v) = v := (fun _ => rfl); have hfun : ∀ f, a.eval (.func f) = .func (.func f) #[] #[] := (fun _ => rfl); generalize a.eval = ρ at *; go_simp) rfl (show W = W from rfl)
      | 2, ho, hui =>
        obtain rfl := Option.some.inj (show some _ = some o from ho)
        have e40 : a.eval (.tmp 40) = .pointer (some ⟨l, 0, none⟩) := h ⟨1, .data⟩ (by simp) rfl
        refine fill_value (v := .pointer (some ⟨l, 0, none⟩)) ho rfl (by rfl) (by clear h hN; have hcst : ∀ v, a.eval (.const v) = v := (fun _ => rfl); have hfun : ∀ f, a.eval (.func f) = .func (.func f) #[] #[] := (fun _ => rfl); generalize a.eval = ρ at *; go_simp) rfl (show W = W from rfl)
      | 3, ho, hui =>
        obtain rfl := Option.some.inj (show some _ = some o from ho)
        have e41 : a.eval (.tmp 41) = .pointer (some ⟨l, 0, none⟩) := h ⟨2, .data⟩ (by simp) rfl
        refine fill_value (v := .pointer (some ⟨l, 5, none⟩)) ho rfl (by rfl) (by clear h hN; have hcst : ∀ v, a.eval (.const v) = v := (fun _ => rfl); have hfun : ∀ f, a.eval (.func f) = .func (.func f) #[] #[] := (fun _ => rfl); generalize a.eval = ρ at *; go_simp) rfl (show W = W from rfl)
      | 4, ho, hui =>
        obtain rfl := Option.some.inj (show some _ = some o from ho)
        have e42 : a.eval (.tmp 42) = .pointer (some ⟨l, 5, none⟩) := h ⟨3, .data⟩ (by simp) rfl
        have hc := HD5.out W hi
        refine fill_value (v := .int .i64 ag) ho rfl (by rfl) (by clear h hN; have hcst : ∀ v, a.eval (.const v) = v := (fun _ => rfl); have hfun : ∀ f, a.eval (.func f) = .func (.func f) #[] #[] := (fun _ => rfl); generalize a.eval = ρ at *; go_simp) rfl (show W = W from rfl)
      | 5, ho, hui =>
        obtain rfl := Option.some.inj (show some _ = some o from ho)
        have e0 : a.eval (.tmp 0) = .pointer (some ⟨l, 0, none⟩) := hN.eval 0 (by kernel_rfl)
        refine fill_value (v := .pointer (some ⟨l, 0, none⟩)) ho rfl (by rfl) (by clear h hN; have hcst : ∀ v, a.eval (.const v) = v := (fun _ => rfl); have hfun : ∀ f, a.eval (.func f) = .func (.func f) #[] #[] := (fun _ => rfl); generalize a.eval = ρ at *; go_simp) rfl (show W = W from rfl)
      | 6, ho, hui =>
        obtain rfl := Option.some.inj (show some _ = some o from ho)
        have e44 : a.eval (.tmp 44) = .pointer (some ⟨l, 0, none⟩) := h ⟨5, .data⟩ (by simp) rfl
        refine fill_value (v := .pointer (some ⟨l, 0, none⟩)) ho rfl (by rfl) (by clear h hN; have hcst : ∀ v, a.eval (.const v) = v := (fun _ => rfl); have hfun : ∀ f, a.eval (.func f) = .func (.func f) #[] #[] := (fun _ => rfl); generalize a.eval = ρ at *; go_simp) rfl (show W = W from rfl)
      | 7, ho, hui =>
        obtain rfl := Option.some.inj (show some _ = some o from ho)
        have e45 : a.eval (.tmp 45) = .pointer (some ⟨l, 0, none⟩) := h ⟨6, .data⟩ (by simp) rfl
        refine fill_value (v := .pointer (some ⟨l, 5, none⟩)) ho rfl (by rfl) (by clear h hN; have hcst : ∀ v, a.eval (.const v) = v := (fun _ => rfl); have hfun : ∀ f, a.eval (.func f) = .func (.func f) #[] #[] := (fun _ => rfl); generalize a.eval = ρ at *; go_simp) rfl (show W = W from rfl)
      | 8, ho, hui =>
        obtain rfl := Option.some.inj (show some _ = some o from ho)
        have e46 : a.eval (.tmp 46) = .pointer (some ⟨l, 5, none⟩) := h ⟨7, .data⟩ (by simp) rfl
        have hc := HD5.out W hi
        refine fill_value (v := .int .i64 ag) ho rfl (by rfl) (by clear h hN; have hcst : ∀ v, a.eval (.const v) = v := (fun _ => rfl); have hfun : ∀ f, a.eval (.func f) = .func (.func f) #[] #[] := (fun _ => rfl); generalize a.eval = ρ at *; go_simp) rfl (show W = W from rfl)
      | 9, ho, hui =>
        obtain rfl := Option.some.inj (show some _ = some o from ho)
        have e39 : a.eval (.tmp 39) = .pointer (some ⟨gi, 0, none⟩) := h ⟨0, .data⟩ (by simp) rfl
        have e43 : a.eval (.tmp 43) = .int .i64 ag := h ⟨4, .data⟩ (by simp) rfl
        have e47 : a.eval (.tmp 47) = .int .i64 ag := h ⟨8, .data⟩ (by simp) rfl
        refine fill_enter (f := 62) (args := #[.pointer (some ⟨gi, 0, none⟩), .int .i64 ag, .int .i64 ag]) ho rfl (by rfl) (by clear h hN; have hcst : ∀ v, a.eval (.const v) = v := (fun _ => rfl); have hfun : ∀ f, a.eval (.func f) = .func (.func f) #[] #[] := (fun _ => rfl); generalize a.eval = ρ at *; go_simp) (HN1.out W gi (Lib.hid hui)) ?_
        rintro e w2 ⟨rfl, h5, h6⟩
        exact ⟨_, rfl, ⟨rfl, h5.out⟩, h6⟩
      | nX + 10, ho, hui => exact absurd ho (by simp)
    · intro vals W hi h
      have u0 : vals 0 = .pointer (some ⟨gi, 0, none⟩) := h 0 (by decide)
      have u1 : vals 1 = .pointer (some ⟨l, 0, none⟩) := h 1 (by decide)
      have u2 : vals 2 = .pointer (some ⟨l, 0, none⟩) := h 2 (by decide)
      have u3 : vals 3 = .pointer (some ⟨l, 5, none⟩) := h 3 (by decide)
      have u4 : vals 4 = .int .i64 ag := h 4 (by decide)
      have u5 : vals 5 = .pointer (some ⟨l, 0, none⟩) := h 5 (by decide)
      have u6 : vals 6 = .pointer (some ⟨l, 0, none⟩) := h 6 (by decide)
      have u7 : vals 7 = .pointer (some ⟨l, 5, none⟩) := h 7 (by decide)
      have u8 : vals 8 = .int .i64 ag := h 8 (by decide)
      obtain ⟨u9, p9⟩ : vals 9 = .int .i64 v1 ∧ Fw.Box W gi L1 e1 := h 9 (by decide)
      generalize hA : fill _ _ _ _ = A
      have hA2 : (Act.put (Act.put (Act.put (Act.put (Act.put (Act.put (Act.put (Act.put (Act.put (Act.put (_ : Act) (some 39) (vals 0)) (some 40) (vals 1)) (some 41) (vals 2)) (some 42) (vals 3)) (some 43) (vals 4)) (some 44) (vals 5)) (some 45) (vals 6)) (some 46) (vals 7)) (some 47) (vals 8)) (some 48) (vals 9)) = A := hA
      clear hA h V R U
      rw [u0, u1, u2, u3, u4, u5, u6, u7, u8, u9] at hA2
      simp only [fill, Act.put, List.setIfInBounds_toArray, List.set_cons_succ, List.set_cons_zero] at hA2
      subst hA2
      clear u0 u1 u2 u3 u4 u5 u6 u7 u8 u9
      obtain ⟨w4, hw4⟩ : ∃ x, x = W := ⟨_, rfl⟩
      subst hw4
      have HX1 := Lib.hid p9
      have HB4 := Lib.hid hi
      clear p9 hi
      go_wp2_with fail
      let U : Nat → World → Prop := fun jX W => match jX with | 0 => True | 1 => True | 2 => True | 3 => True | 4 => True | 5 => True | 6 => True | 7 => True | 8 => True | 9 => Fw.Box W gi L1 e1 | _ => True
      let R : Nat → World → World → Prop := fun jX W W2 => match jX with | 0 => W = W2 | 1 => W = W2 | 2 => W = W2 | 3 => W = W2 | 4 => W = W2 | 5 => W = W2 | 6 => W = W2 | 7 => W = W2 | 8 => W = W2 | 9 => Below gi W W2 | _ => W = W2
      let V : Nat → Value → World → Prop := fun jX v W => match jX with | 0 => v = .pointer (some ⟨gi, 0, none⟩) | 1 => v = .pointer (some ⟨l, 0, none⟩) | 2 => v = .pointer (some ⟨l, 0, none⟩) | 3 => v = .pointer (some ⟨l, 4, none⟩) | 4 => v = .int .i64 nr | 5 => v = .pointer (some ⟨l, 0, none⟩) | 6 => v = .pointer (some ⟨l, 0, none⟩) | 7 => v = .pointer (some ⟨l, 4, none⟩) | 8 => v = .int .i64 nr | 9 => v = .int .i64 v2 ∧ Fw.Box W gi L2 e2 | _ => True
      refine wp_region_fill2 (by kernel_rfl) U V (fun W => Below wB.heap.size wB W) R (by kernel_rfl) (by kernel_rfl) (HB4.out.trans ((Below.refl _ _).drew)) ?_ ?_ ?_ ?_ ?_ ?_
      · intro jX
        match jX with
        | 0 => exact trivial
        | 1 => exact trivial
        | 2 => exact trivial
        | 3 => exact trivial
        | 4 => exact trivial
        | 5 => exact trivial
        | 6 => exact trivial
        | 7 => exact trivial
        | 8 => exact trivial
        | 9 => exact Fw.box_later HX1.out ((Below.refl _ _).drew)
        | nX + 10 => exact trivial
      · intro iX W W2 hr hi
        match iX, hr with
        | 0, hr => exact (show W = W2 from hr) ▸ hi
        | 1, hr => exact (show W = W2 from hr) ▸ hi
        | 2, hr => exact (show W = W2 from hr) ▸ hi
        | 3, hr => exact (show W = W2 from hr) ▸ hi
        | 4, hr => exact (show W = W2 from hr) ▸ hi
        | 5, hr => exact (show W = W2 from hr) ▸ hi
        | 6, hr => exact (show W = W2 from hr) ▸ hi
        | 7, hr => exact (show W = W2 from hr) ▸ hi
        | 8, hr => exact (show W = W2 from hr) ▸ hi
        | 9, hr => exact hi.trans (Below.mono hr hgi)
        | nX + 10, hr => exact (show W = W2 from hr) ▸ hi
      · intro iX jX W W2 hij hi hui hr h
        match iX, hij, hui, hr with
        | 0, hij, hui, hr => exact (show W = W2 from hr) ▸ h
        | 1, hij, hui, hr => exact (show W = W2 from hr) ▸ h
        | 2, hij, hui, hr => exact (show W = W2 from hr) ▸ h
        | 3, hij, hui, hr => exact (show W = W2 from hr) ▸ h
        | 4, hij, hui, hr => exact (show W = W2 from hr) ▸ h
        | 5, hij, hui, hr => exact (show W = W2 from hr) ▸ h
        | 6, hij, hui, hr => exact (show W = W2 from hr) ▸ h
        | 7, hij, hui, hr => exact (show W = W2 from hr) ▸ h
        | 8, hij, hui, hr => exact (show W = W2 from hr) ▸ h
        | 9, hij, hui, hr =>
          match jX, hij, h with
          | 0, hij, h => exact h
          | 1, hij, h => exact h
          | 2, hij, h => exact h
          | 3, hij, h => exact h
          | 4, hij, h => exact h
          | 5, hij, h => exact h
          | 6, hij, h => exact h
          | 7, hij, h => exact h
          | 8, hij, h => exact h
          | 9, hij, h => exact absurd rfl hij
          | nX + 10, hij, h => exact h
        | nX + 10, hij, hui, hr => exact (show W = W2 from hr) ▸ h
      · intro iX jX v W W2 hij hi hui hr h
        match iX, hij, hui, hr with
        | 0, hij, hui, hr => exact (show W = W2 from hr) ▸ h
        | 1, hij, hui, hr => exact (show W = W2 from hr) ▸ h
        | 2, hij, hui, hr => exact (show W = W2 from hr) ▸ h
        | 3, hij, hui, hr => exact (show W = W2 from hr) ▸ h
        | 4, hij, hui, hr => exact (show W = W2 from hr) ▸ h
        | 5, hij, hui, hr => exact (show W = W2 from hr) ▸ h
        | 6, hij, hui, hr => exact (show W = W2 from hr) ▸ h
        | 7, hij, hui, hr => exact (show W = W2 from hr) ▸ h
        | 8, hij, hui, hr => exact (show W = W2 from hr) ▸ h
        | 9, hij, hui, hr =>
          match jX, hij, h with
          | 0, hij, h => exact h
          | 1, hij, h => exact h
          | 2, hij, h => exact h
          | 3, hij, h => exact h
          | 4, hij, h => exact h
          | 5, hij, h => exact h
          | 6, hij, h => exact h
          | 7, hij, h => exact h
          | 8, hij, h => exact h
          | 9, hij, h => exact absurd rfl hij
          | nX + 10, hij, h => exact h
        | nX + 10, hij, hui, hr => exact (show W = W2 from hr) ▸ h
      · intro iX o ho a W hN hi hui h
        match iX, ho, hui with
        | 0, ho, hui =>
          obtain rfl := Option.some.inj (show some _ = some o from ho)
          have e7 : a.eval (.tmp 7) = .pointer (some ⟨gi, 0, none⟩) := hN.eval 7 (by kernel_rfl)
          refine fill_value (v := .pointer (some ⟨gi, 0, none⟩)) ho rfl (by rfl) (by clear h hN; have hcst : ∀ v, a.eval (.const v) = v := (fun _ => rfl); have hfun : ∀ f, a.eval (.func f) = .func (.func f) #[] #[] := (fun _ => rfl); generalize a.eval = ρ at *; go_simp) rfl (show W = W from rfl)
        | 1, ho, hui =>
          obtain rfl := Option.some.inj (show some _ = some o from ho)
          have e0 : a.eval (.tmp 0) = .pointer (some ⟨l, 0, none⟩) := hN.eval 0 (by kernel_rfl)
          refine fill_value (v := .pointer (some ⟨l, 0, none⟩)) ho rfl (by rfl) (by clear h hN; have hcst : ∀ v, a.eval (.const v) = v := (fun _ => rfl); have hfun : ∀ f, a.eval (.func f) = .func (.func f) #[] #[] := (fun _ => rfl); generalize a.eval = ρ at *; go_simp) rfl (show W = W from rfl)
        | 2, ho, hui =>
          obtain rfl := Option.some.inj (show some _ = some o from ho)
          have e50 : a.eval (.tmp 50) = .pointer (some ⟨l, 0, none⟩) := h ⟨1, .data⟩ (by simp) rfl
          refine fill_value (v := .pointer (some ⟨l, 0, none⟩)) ho rfl (by rfl) (by clear h hN; have hcst : ∀ v, a.eval (.const v) = v := (fun _ => rfl); have hfun : ∀ f, a.eval (.func f) = .func (.func f) #[] #[] := (fun _ => rfl); generalize a.eval = ρ at *; go_simp) rfl (show W = W from rfl)
        | 3, ho, hui =>
          obtain rfl := Option.some.inj (show some _ = some o from ho)
          have e51 : a.eval (.tmp 51) = .pointer (some ⟨l, 0, none⟩) := h ⟨2, .data⟩ (by simp) rfl
          refine fill_value (v := .pointer (some ⟨l, 4, none⟩)) ho rfl (by rfl) (by clear h hN; have hcst : ∀ v, a.eval (.const v) = v := (fun _ => rfl); have hfun : ∀ f, a.eval (.func f) = .func (.func f) #[] #[] := (fun _ => rfl); generalize a.eval = ρ at *; go_simp) rfl (show W = W from rfl)
        | 4, ho, hui =>
          obtain rfl := Option.some.inj (show some _ = some o from ho)
          have e52 : a.eval (.tmp 52) = .pointer (some ⟨l, 4, none⟩) := h ⟨3, .data⟩ (by simp) rfl
          have hc := HD4.out W hi
          refine fill_value (v := .int .i64 nr) ho rfl (by rfl) (by clear h hN; have hcst : ∀ v, a.eval (.const v) = v := (fun _ => rfl); have hfun : ∀ f, a.eval (.func f) = .func (.func f) #[] #[] := (fun _ => rfl); generalize a.eval = ρ at *; go_simp) rfl (show W = W from rfl)
        | 5, ho, hui =>
          obtain rfl := Option.some.inj (show some _ = some o from ho)
          have e0 : a.eval (.tmp 0) = .pointer (some ⟨l, 0, none⟩) := hN.eval 0 (by kernel_rfl)
          refine fill_value (v := .pointer (some ⟨l, 0, none⟩)) ho rfl (by rfl) (by clear h hN; have hcst : ∀ v, a.eval (.const v) = v := (fun _ => rfl); have hfun : ∀ f, a.eval (.func f) = .func (.func f) #[] #[] := (fun _ => rfl); generalize a.eval = ρ at *; go_simp) rfl (show W = W from rfl)
        | 6, ho, hui =>
          obtain rfl := Option.some.inj (show some _ = some o from ho)
          have e54 : a.eval (.tmp 54) = .pointer (some ⟨l, 0, none⟩) := h ⟨5, .data⟩ (by simp) rfl
          refine fill_value (v := .pointer (some ⟨l, 0, none⟩)) ho rfl (by rfl) (by clear h hN; have hcst : ∀ v, a.eval (.const v) = v := (fun _ => rfl); have hfun : ∀ f, a.eval (.func f) = .func (.func f) #[] #[] := (fun _ => rfl); generalize a.eval = ρ at *; go_simp) rfl (show W = W from rfl)
        | 7, ho, hui =>
          obtain rfl := Option.some.inj (show some _ = some o from ho)
          have e55 : a.eval (.tmp 55) = .pointer (some ⟨l, 0, none⟩) := h ⟨6, .data⟩ (by simp) rfl
          refine fill_value (v := .pointer (some ⟨l, 4, none⟩)) ho rfl (by rfl) (by clear h hN; have hcst : ∀ v, a.eval (.const v) = v := (fun _ => rfl); have hfun : ∀ f, a.eval (.func f) = .func (.func f) #[] #[] := (fun _ => rfl); generalize a.eval = ρ at *; go_simp) rfl (show W = W from rfl)
        | 8, ho, hui =>
          obtain rfl := Option.some.inj (show some _ = some o from ho)
          have e56 : a.eval (.tmp 56) = .pointer (some ⟨l, 4, none⟩) := h ⟨7, .data⟩ (by simp) rfl
          have hc := HD4.out W hi
          refine fill_value (v := .int .i64 nr) ho rfl (by rfl) (by clear h hN; have hcst : ∀ v, a.eval (.const v) = v := (fun _ => rfl); have hfun : ∀ f, a.eval (.func f) = .func (.func f) #[] #[] := (fun _ => rfl); generalize a.eval = ρ at *; go_simp) rfl (show W = W from rfl)
        | 9, ho, hui =>
          obtain rfl := Option.some.inj (show some _ = some o from ho)
          have e49 : a.eval (.tmp 49) = .pointer (some ⟨gi, 0, none⟩) := h ⟨0, .data⟩ (by simp) rfl
          have e53 : a.eval (.tmp 53) = .int .i64 nr := h ⟨4, .data⟩ (by simp) rfl
          have e57 : a.eval (.tmp 57) = .int .i64 nr := h ⟨8, .data⟩ (by simp) rfl
          refine fill_enter (f := 62) (args := #[.pointer (some ⟨gi, 0, none⟩), .int .i64 nr, .int .i64 nr]) ho rfl (by rfl) (by clear h hN; have hcst : ∀ v, a.eval (.const v) = v := (fun _ => rfl); have hfun : ∀ f, a.eval (.func f) = .func (.func f) #[] #[] := (fun _ => rfl); generalize a.eval = ρ at *; go_simp) (HN2.out W gi (Lib.hid hui)) ?_
          rintro e w2 ⟨rfl, h5, h6⟩
          exact ⟨_, rfl, ⟨rfl, h5.out⟩, h6⟩
        | nX + 10, ho, hui => exact absurd ho (by simp)
      · intro vals W hi h
        have u0 : vals 0 = .pointer (some ⟨gi, 0, none⟩) := h 0 (by decide)
        have u1 : vals 1 = .pointer (some ⟨l, 0, none⟩) := h 1 (by decide)
        have u2 : vals 2 = .pointer (some ⟨l, 0, none⟩) := h 2 (by decide)
        have u3 : vals 3 = .pointer (some ⟨l, 4, none⟩) := h 3 (by decide)
        have u4 : vals 4 = .int .i64 nr := h 4 (by decide)
        have u5 : vals 5 = .pointer (some ⟨l, 0, none⟩) := h 5 (by decide)
        have u6 : vals 6 = .pointer (some ⟨l, 0, none⟩) := h 6 (by decide)
        have u7 : vals 7 = .pointer (some ⟨l, 4, none⟩) := h 7 (by decide)
        have u8 : vals 8 = .int .i64 nr := h 8 (by decide)
        obtain ⟨u9, p9⟩ : vals 9 = .int .i64 v2 ∧ Fw.Box W gi L2 e2 := h 9 (by decide)
        generalize hA : fill _ _ _ _ = A
        have hA2 : (Act.put (Act.put (Act.put (Act.put (Act.put (Act.put (Act.put (Act.put (Act.put (Act.put (_ : Act) (some 49) (vals 0)) (some 50) (vals 1)) (some 51) (vals 2)) (some 52) (vals 3)) (some 53) (vals 4)) (some 54) (vals 5)) (some 55) (vals 6)) (some 56) (vals 7)) (some 57) (vals 8)) (some 58) (vals 9)) = A := hA
        clear hA h V R U
        rw [u0, u1, u2, u3, u4, u5, u6, u7, u8, u9] at hA2
        simp only [fill, Act.put, List.setIfInBounds_toArray, List.set_cons_succ, List.set_cons_zero] at hA2
        subst hA2
        clear u0 u1 u2 u3 u4 u5 u6 u7 u8 u9
        obtain ⟨w5, hw5⟩ : ∃ x, x = W := ⟨_, rfl⟩
        subst hw5
        have HX2 := Lib.hid p9
        have HB5 := Lib.hid hi
        clear p9 hi
        go_wp2_with fail
        refine (HDR.out w5 HB5.out).mono ?_
        rintro e w6 ⟨rfl, hb6⟩
        have HX6 := Lib.hid (Fw.box_later HX2.out hb6)
        have HB6 := Lib.hid (HB5.out.trans (hb6.mono HB5.out.size))
        clear hb6
        go_wp2_with fail
        refine (HN3.out w6 gi HX6).mono ?_
        rintro e w7 ⟨rfl, HX7, hb7⟩
        have HB7 := Lib.hid (HB6.out.trans (hb7.mono hgi))
        clear hb7
        go_wp2_with fail
        refine (HN4.out w7 gi HX7).mono ?_
        rintro e w8 ⟨rfl, HX8, hb8⟩
        have HB8 := Lib.hid (HB7.out.trans (hb8.mono hgi))
        clear hb8
        have HT8 := Lib.hid (Fc.tab_later (Fc.tab_later ht.out HBB.out) HB8.out)
        have HS8 := Lib.hid (Fc.src_later HS.out HB8.out)
        have HE5 := Lib.hid (fun W (hb : Below w8.heap.size w8 W) => HD5.out W (HB8.out.trans (hb.mono HB8.out.size)))
        have HE4 := Lib.hid (fun W (hb : Below w8.heap.size w8 W) => HD4.out W (HB8.out.trans (hb.mono HB8.out.size)))
        have HErr := Lib.hid (fun W (hb : Below w8.heap.size w8 W) => Fw.err_any gi L4 e4 W (Lib.hid (Fw.box_later HX8.out hb)))
        have HW8 := Lib.hid (HBB.out.trans (HB8.out.mono HBB.out.size))
        clear HN1 HN2 HN3 HN4 HOp HRm HRd HC0 HC3 HD5 HD4 HDR
        by_cases he4 : e4 = 0
        · subst he4
          obtain ⟨hc0, hc1⟩ := HIN.out rfl
          obtain ⟨n, hn⟩ : ∃ n : Nat, cnt = (n : Int) := ⟨cnt.toNat, by omega⟩
          subst hn
          have hnn : ((n : Nat) : Int).toNat = n := Int.toNat_natCast n
          rw [hnn] at HRS
          by_cases hE : A = padL (firstL ag nr (n : Int) sm)
          · have HEE : Hid (∀ (W : World) (ga ca gb : Nat), Fc.Src W (some ⟨ga, 0, none⟩) A → SecRow W gb (firstL ag nr (n : Int) sm) → Calls Tryd.prog 63 #[.slice (some ⟨ga, 0, none⟩) 512 ca, .slice (some ⟨gb, 0, none⟩) 512 512] W fun e w' => e = .returned (.bool true) ∧ W = w') := Lib.hid fun W ga ca gb hs hr => by
              have := HEq.out W ga ca gb hs hr
              rw [decide_eq_true hE] at this
              exact this
            have HEY := Lib.hid (fun _ : True => hE)
            clear hE HEq
            go_wp2_with fail
            let R : World → World → Prop := fun W W2 => Below W.heap.size W W2
            let V : Nat → Value → World → Prop := fun jX v W => match jX with | 0 => v = .pointer (some ⟨gi, 0, none⟩) | 1 => v = .int .i64 0 | 2 => v = .bool false | 3 => v = .bool false | 4 => v = .slice (some ⟨gd, 0, none⟩) 512 cd | 5 => v = .pointer (some ⟨l, 0, none⟩) | 6 => v = .pointer (some ⟨l, 0, none⟩) | 7 => v = .pointer (some ⟨l, 5, none⟩) | 8 => v = .int .i64 ag | 9 => v = .pointer (some ⟨l, 0, none⟩) | 10 => v = .pointer (some ⟨l, 0, none⟩) | 11 => v = .pointer (some ⟨l, 4, none⟩) | 12 => v = .int .i64 nr | 13 => v = .int .i64 (n : Int) | 14 => v = .int .i64 sm | 15 => ∃ gf, v = .slice (some ⟨gf, 0, none⟩) 512 512 ∧ SecRow W gf (firstL ag nr (n : Int) sm) | 16 => v = .bool true | 17 => v = .bool false | 18 => v = .bool false | _ => True
            refine wp_region_fill (by kernel_rfl) V (fun W => Below w8.heap.size w8 W) R (by kernel_rfl) (by kernel_rfl) ((Below.refl _ _).drew) (fun W W2 hr hi => hi.trans (hr.mono hi.size)) ?_ ?_ ?_
            · intro jX v W W2 hr h
              match jX, h with
              | 0, h => exact h
              | 1, h => exact h
              | 2, h => exact h
              | 3, h => exact h
              | 4, h => exact h
              | 5, h => exact h
              | 6, h => exact h
              | 7, h => exact h
              | 8, h => exact h
              | 9, h => exact h
              | 10, h => exact h
              | 11, h => exact h
              | 12, h => exact h
              | 13, h => exact h
              | 14, h => exact h
              | 15, h => obtain ⟨gf, h1, h2⟩ := h; exact ⟨gf, h1, keep_row h2 (KeepT.of_below (g := g) hr)⟩
              | 16, h => exact h
              | 17, h => exact h
              | 18, h => exact h
              | nX + 19, h => exact h
            · intro iX o ho a W hN hi h
              match iX, ho with
              | 0, ho =>
                obtain rfl := Option.some.inj (show some _ = some o from ho)
                have e7 : a.eval (.tmp 7) = .pointer (some ⟨gi, 0, none⟩) := hN.eval 7 (by kernel_rfl)
                refine fill_value (v := .pointer (some ⟨gi, 0, none⟩)) ho rfl (by rfl) (by clear h hN; have hcst : ∀ v, a.eval (.const v) = v := (fun _ => rfl); have hfun : ∀ f, a.eval (.func f) = .func (.func f) #[] #[] := (fun _ => rfl); generalize a.eval = ρ at *; go_simp) rfl (Below.refl _ _)
              | 1, ho =>
                obtain rfl := Option.some.inj (show some _ = some o from ho)
                have e65 : a.eval (.tmp 65) = .pointer (some ⟨gi, 0, none⟩) := h ⟨0, .data⟩ (by simp) rfl
                refine fill_enter (f := 64) (args := #[.pointer (some ⟨gi, 0, none⟩)]) ho rfl (by rfl) (by clear h hN; have hcst : ∀ v, a.eval (.const v) = v := (fun _ => rfl); have hfun : ∀ f, a.eval (.func f) = .func (.func f) #[] #[] := (fun _ => rfl); generalize a.eval = ρ at *; go_simp) (HErr.out W hi) ?_
                rintro e w2 ⟨rfl, rfl⟩
                exact ⟨_, rfl, rfl, Below.refl _ _⟩
              | 2, ho =>
                obtain rfl := Option.some.inj (show some _ = some o from ho)
                have e66 : a.eval (.tmp 66) = .int .i64 0 := h ⟨1, .data⟩ (by simp) rfl
                refine fill_value (v := .bool false) ho rfl (by rfl) (by clear h hN; have hcst : ∀ v, a.eval (.const v) = v := (fun _ => rfl); have hfun : ∀ f, a.eval (.func f) = .func (.func f) #[] #[] := (fun _ => rfl); generalize a.eval = ρ at *; go_simp) rfl (Below.refl _ _)
              | 3, ho =>
                obtain rfl := Option.some.inj (show some _ = some o from ho)
                have e67 : a.eval (.tmp 67) = .bool false := h ⟨2, .data⟩ (by simp) rfl
                refine fill_value (v := .bool false) ho rfl (by rfl) (by clear h hN; have hcst : ∀ v, a.eval (.const v) = v := (fun _ => rfl); have hfun : ∀ f, a.eval (.func f) = .func (.func f) #[] #[] := (fun _ => rfl); generalize a.eval = ρ at *; go_simp) rfl (Below.refl _ _)
              | 4, ho =>
                obtain rfl := Option.some.inj (show some _ = some o from ho)
                have e5 : a.eval (.tmp 5) = .slice (some ⟨gd, 0, none⟩) 512 cd := hN.eval 5 (by kernel_rfl)
                refine fill_value (v := .slice (some ⟨gd, 0, none⟩) 512 cd) ho rfl (guard_is false rfl rfl (show a.eval (.tmp 68) = .bool false from h ⟨3, .guard⟩ (by simp) rfl)) (by clear h hN; have hcst : ∀ v, a.eval (.const v) = v := (fun _ => rfl); have hfun : ∀ f, a.eval (.func f) = .func (.func f) #[] #[] := (fun _ => rfl); generalize a.eval = ρ at *; go_simp) rfl (Below.refl _ _)
              | 5, ho =>
                obtain rfl := Option.some.inj (show some _ = some o from ho)
                have e0 : a.eval (.tmp 0) = .pointer (some ⟨l, 0, none⟩) := hN.eval 0 (by kernel_rfl)
                refine fill_value (v := .pointer (some ⟨l, 0, none⟩)) ho rfl (guard_is false rfl rfl (show a.eval (.tmp 68) = .bool false from h ⟨3, .guard⟩ (by simp) rfl)) (by clear h hN; have hcst : ∀ v, a.eval (.const v) = v := (fun _ => rfl); have hfun : ∀ f, a.eval (.func f) = .func (.func f) #[] #[] := (fun _ => rfl); generalize a.eval = ρ at *; go_simp) rfl (Below.refl _ _)
              | 6, ho =>
                obtain rfl := Option.some.inj (show some _ = some o from ho)
                have e70 : a.eval (.tmp 70) = .pointer (some ⟨l, 0, none⟩) := h ⟨5, .data⟩ (by simp) rfl
                refine fill_value (v := .pointer (some ⟨l, 0, none⟩)) ho rfl (guard_is false rfl rfl (show a.eval (.tmp 68) = .bool false from h ⟨3, .guard⟩ (by simp) rfl)) (by clear h hN; have hcst : ∀ v, a.eval (.const v) = v := (fun _ => rfl); have hfun : ∀ f, a.eval (.func f) = .func (.func f) #[] #[] := (fun _ => rfl); generalize a.eval = ρ at *; go_simp) rfl (Below.refl _ _)
              | 7, ho =>
                obtain rfl := Option.some.inj (show some _ = some o from ho)
                have e71 : a.eval (.tmp 71) = .pointer (some ⟨l, 0, none⟩) := h ⟨6, .data⟩ (by simp) rfl
                refine fill_value (v := .pointer (some ⟨l, 5, none⟩)) ho rfl (guard_is false rfl rfl (show a.eval (.tmp 68) = .bool false from h ⟨3, .guard⟩ (by simp) rfl)) (by clear h hN; have hcst : ∀ v, a.eval (.const v) = v := (fun _ => rfl); have hfun : ∀ f, a.eval (.func f) = .func (.func f) #[] #[] := (fun _ => rfl); generalize a.eval = ρ at *; go_simp) rfl (Below.refl _ _)
              | 8, ho =>
                obtain rfl := Option.some.inj (show some _ = some o from ho)
                have e72 : a.eval (.tmp 72) = .pointer (some ⟨l, 5, none⟩) := h ⟨7, .data⟩ (by simp) rfl
                have hc := HE5.out W hi
                refine fill_value (v := .int .i64 ag) ho rfl (guard_is false rfl rfl (show a.eval (.tmp 68) = .bool false from h ⟨3, .guard⟩ (by simp) rfl)) (by clear h hN; have hcst : ∀ v, a.eval (.const v) = v := (fun _ => rfl); have hfun : ∀ f, a.eval (.func f) = .func (.func f) #[] #[] := (fun _ => rfl); generalize a.eval = ρ at *; go_simp) rfl (Below.refl _ _)
              | 9, ho =>
                obtain rfl := Option.some.inj (show some _ = some o from ho)
                have e0 : a.eval (.tmp 0) = .pointer (some ⟨l, 0, none⟩) := hN.eval 0 (by kernel_rfl)
                refine fill_value (v := .pointer (some ⟨l, 0, none⟩)) ho rfl (guard_is false rfl rfl (show a.eval (.tmp 68) = .bool false from h ⟨3, .guard⟩ (by simp) rfl)) (by clear h hN; have hcst : ∀ v, a.eval (.const v) = v := (fun _ => rfl); have hfun : ∀ f, a.eval (.func f) = .func (.func f) #[] #[] := (fun _ => rfl); generalize a.eval = ρ at *; go_simp) rfl (Below.refl _ _)
              | 10, ho =>
                obtain rfl := Option.some.inj (show some _ = some o from ho)
                have e74 : a.eval (.tmp 74) = .pointer (some ⟨l, 0, none⟩) := h ⟨9, .data⟩ (by simp) rfl
                refine fill_value (v := .pointer (some ⟨l, 0, none⟩)) ho rfl (guard_is false rfl rfl (show a.eval (.tmp 68) = .bool false from h ⟨3, .guard⟩ (by simp) rfl)) (by clear h hN; have hcst : ∀ v, a.eval (.const v) = v := (fun _ => rfl); have hfun : ∀ f, a.eval (.func f) = .func (.func f) #[] #[] := (fun _ => rfl); generalize a.eval = ρ at *; go_simp) rfl (Below.refl _ _)
              | 11, ho =>
                obtain rfl := Option.some.inj (show some _ = some o from ho)
                have e75 : a.eval (.tmp 75) = .pointer (some ⟨l, 0, none⟩) := h ⟨10, .data⟩ (by simp) rfl
                refine fill_value (v := .pointer (some ⟨l, 4, none⟩)) ho rfl (guard_is false rfl rfl (show a.eval (.tmp 68) = .bool false from h ⟨3, .guard⟩ (by simp) rfl)) (by clear h hN; have hcst : ∀ v, a.eval (.const v) = v := (fun _ => rfl); have hfun : ∀ f, a.eval (.func f) = .func (.func f) #[] #[] := (fun _ => rfl); generalize a.eval = ρ at *; go_simp) rfl (Below.refl _ _)
              | 12, ho =>
                obtain rfl := Option.some.inj (show some _ = some o from ho)
                have e76 : a.eval (.tmp 76) = .pointer (some ⟨l, 4, none⟩) := h ⟨11, .data⟩ (by simp) rfl
                have hc := HE4.out W hi
                refine fill_value (v := .int .i64 nr) ho rfl (guard_is false rfl rfl (show a.eval (.tmp 68) = .bool false from h ⟨3, .guard⟩ (by simp) rfl)) (by clear h hN; have hcst : ∀ v, a.eval (.const v) = v := (fun _ => rfl); have hfun : ∀ f, a.eval (.func f) = .func (.func f) #[] #[] := (fun _ => rfl); generalize a.eval = ρ at *; go_simp) rfl (Below.refl _ _)
              | 13, ho =>
                obtain rfl := Option.some.inj (show some _ = some o from ho)
                have e8 : a.eval (.tmp 8) = .int .i64 (n : Int) := hN.eval 8 (by kernel_rfl)
                refine fill_value (v := .int .i64 (n : Int)) ho rfl (guard_is false rfl rfl (show a.eval (.tmp 68) = .bool false from h ⟨3, .guard⟩ (by simp) rfl)) (by clear h hN; have hcst : ∀ v, a.eval (.const v) = v := (fun _ => rfl); have hfun : ∀ f, a.eval (.func f) = .func (.func f) #[] #[] := (fun _ => rfl); generalize a.eval = ρ at *; go_simp) rfl (Below.refl _ _)
              | 14, ho =>
                obtain rfl := Option.some.inj (show some _ = some o from ho)
                have e9 : a.eval (.tmp 9) = .int .i64 sm := hN.eval 9 (by kernel_rfl)
                refine fill_value (v := .int .i64 sm) ho rfl (guard_is false rfl rfl (show a.eval (.tmp 68) = .bool false from h ⟨3, .guard⟩ (by simp) rfl)) (by clear h hN; have hcst : ∀ v, a.eval (.const v) = v := (fun _ => rfl); have hfun : ∀ f, a.eval (.func f) = .func (.func f) #[] #[] := (fun _ => rfl); generalize a.eval = ρ at *; go_simp) rfl (Below.refl _ _)
              | 15, ho =>
                obtain rfl := Option.some.inj (show some _ = some o from ho)
                have e73 : a.eval (.tmp 73) = .int .i64 ag := h ⟨8, .data⟩ (by simp) rfl
                have e77 : a.eval (.tmp 77) = .int .i64 nr := h ⟨12, .data⟩ (by simp) rfl
                have e78 : a.eval (.tmp 78) = .int .i64 (n : Int) := h ⟨13, .data⟩ (by simp) rfl
                have e79 : a.eval (.tmp 79) = .int .i64 sm := h ⟨14, .data⟩ (by simp) rfl
                refine fill_enter (f := 56) (args := #[.int .i64 ag, .int .i64 nr, .int .i64 (n : Int), .int .i64 sm]) ho rfl (guard_is false rfl rfl (show a.eval (.tmp 68) = .bool false from h ⟨3, .guard⟩ (by simp) rfl)) (by clear h hN; have hcst : ∀ v, a.eval (.const v) = v := (fun _ => rfl); have hfun : ∀ f, a.eval (.func f) = .func (.func f) #[] #[] := (fun _ => rfl); generalize a.eval = ρ at *; go_simp) (HFs.out W (Lib.hid (Fc.tab_later HT8.out hi))) ?_
                rintro e w2 ⟨gf, rfl, h4, h5, h6, h7⟩
                exact ⟨_, rfl, ⟨_, rfl, h5⟩, h6⟩
              | 16, ho =>
                obtain rfl := Option.some.inj (show some _ = some o from ho)
                have e69 : a.eval (.tmp 69) = .slice (some ⟨gd, 0, none⟩) 512 cd := h ⟨4, .data⟩ (by simp) rfl
                obtain ⟨gf, e80, p80⟩ : ∃ gf, a.eval (.tmp 80) = .slice (some ⟨gf, 0, none⟩) 512 512 ∧ SecRow W gf (firstL ag nr (n : Int) sm) := h ⟨15, .data⟩ (by simp) rfl
                refine fill_enter (f := 63) (args := #[.slice (some ⟨gd, 0, none⟩) 512 cd, .slice (some ⟨gf, 0, none⟩) 512 512]) ho rfl (guard_is false rfl rfl (show a.eval (.tmp 68) = .bool false from h ⟨3, .guard⟩ (by simp) rfl)) (by clear h hN; have hcst : ∀ v, a.eval (.const v) = v := (fun _ => rfl); have hfun : ∀ f, a.eval (.func f) = .func (.func f) #[] #[] := (fun _ => rfl); generalize a.eval = ρ at *; go_simp) (HEE.out W gd cd gf (Fc.src_later HS8.out hi) p80) ?_
                rintro e w2 ⟨rfl, rfl⟩
                exact ⟨_, rfl, rfl, Below.refl _ _⟩
              | 17, ho =>
                obtain rfl := Option.some.inj (show some _ = some o from ho)
                have e81 : a.eval (.tmp 81) = .bool true := h ⟨16, .data⟩ (by simp) rfl
                refine fill_value (v := .bool false) ho rfl (guard_is false rfl rfl (show a.eval (.tmp 68) = .bool false from h ⟨3, .guard⟩ (by simp) rfl)) (by clear h hN; have hcst : ∀ v, a.eval (.const v) = v := (fun _ => rfl); have hfun : ∀ f, a.eval (.func f) = .func (.func f) #[] #[] := (fun _ => rfl); generalize a.eval = ρ at *; go_simp) rfl (Below.refl _ _)
              | 18, ho =>
                obtain rfl := Option.some.inj (show some _ = some o from ho)
                have e68 : a.eval (.tmp 68) = .bool false := h ⟨3, .data⟩ (by simp) rfl
                have e82 : a.eval (.tmp 82) = .bool false := h ⟨17, .data⟩ (by simp) rfl
                refine fill_value (v := .bool false) ho rfl (by rfl) (by clear h hN; have hcst : ∀ v, a.eval (.const v) = v := (fun _ => rfl); have hfun : ∀ f, a.eval (.func f) = .func (.func f) #[] #[] := (fun _ => rfl); generalize a.eval = ρ at *; go_simp) rfl (Below.refl _ _)
              | nX + 19, ho => exact absurd ho (by simp)
            · intro vals W hi h
              have u0 : vals 0 = .pointer (some ⟨gi, 0, none⟩) := h 0 (by decide)
              have u1 : vals 1 = .int .i64 0 := h 1 (by decide)
              have u2 : vals 2 = .bool false := h 2 (by decide)
              have u3 : vals 3 = .bool false := h 3 (by decide)
              have u4 : vals 4 = .slice (some ⟨gd, 0, none⟩) 512 cd := h 4 (by decide)
              have u5 : vals 5 = .pointer (some ⟨l, 0, none⟩) := h 5 (by decide)
              have u6 : vals 6 = .pointer (some ⟨l, 0, none⟩) := h 6 (by decide)
              have u7 : vals 7 = .pointer (some ⟨l, 5, none⟩) := h 7 (by decide)
              have u8 : vals 8 = .int .i64 ag := h 8 (by decide)
              have u9 : vals 9 = .pointer (some ⟨l, 0, none⟩) := h 9 (by decide)
              have u10 : vals 10 = .pointer (some ⟨l, 0, none⟩) := h 10 (by decide)
              have u11 : vals 11 = .pointer (some ⟨l, 4, none⟩) := h 11 (by decide)
              have u12 : vals 12 = .int .i64 nr := h 12 (by decide)
              have u13 : vals 13 = .int .i64 (n : Int) := h 13 (by decide)
              have u14 : vals 14 = .int .i64 sm := h 14 (by decide)
              obtain ⟨gf, u15, p15⟩ : ∃ gf, vals 15 = .slice (some ⟨gf, 0, none⟩) 512 512 ∧ SecRow W gf (firstL ag nr (n : Int) sm) := h 15 (by decide)
              have u16 : vals 16 = .bool true := h 16 (by decide)
              have u17 : vals 17 = .bool false := h 17 (by decide)
              have u18 : vals 18 = .bool false := h 18 (by decide)
              generalize hA : fill _ _ _ _ = A
              have hA2 : (Act.put (Act.put (Act.put (Act.put (Act.put (Act.put (Act.put (Act.put (Act.put (Act.put (Act.put (Act.put (Act.put (Act.put (Act.put (Act.put (Act.put (Act.put (Act.put (_ : Act) (some 65) (vals 0)) (some 66) (vals 1)) (some 67) (vals 2)) (some 68) (vals 3)) (some 69) (vals 4)) (some 70) (vals 5)) (some 71) (vals 6)) (some 72) (vals 7)) (some 73) (vals 8)) (some 74) (vals 9)) (some 75) (vals 10)) (some 76) (vals 11)) (some 77) (vals 12)) (some 78) (vals 13)) (some 79) (vals 14)) (some 80) (vals 15)) (some 81) (vals 16)) (some 82) (vals 17)) (some 83) (vals 18)) = A := hA
              clear hA h V R
              rw [u0, u1, u2, u3, u4, u5, u6, u7, u8, u9, u10, u11, u12, u13, u14, u15, u16, u17, u18] at hA2
              simp only [fill, Act.put, List.setIfInBounds_toArray, List.set_cons_succ, List.set_cons_zero] at hA2
              subst hA2
              clear u0 u1 u2 u3 u4 u5 u6 u7 u8 u9 u10 u11 u12 u13 u14 u15 u16 u17 u18
              obtain ⟨w9, hw9⟩ : ∃ x, x = W := ⟨_, rfl⟩
              subst hw9
              have HW9 := Lib.hid (HW8.out.trans (hi.mono HW8.out.size))
              have HT9 := Lib.hid (Fc.tab_later HT8.out hi)
              have HF2 := HF1.out n hc1
              have HPt := Lib.hid (readParts_any (dq_below H0.out HW9.out) hf p n HF2.2 (by omega) HF2.1 (log_below HLg.out HW9.out))
              have hnb : n ≤ 1000000 := Nat.le_trans HF2.2 (by decide)
              clear p15 hi HF2 HFs HEE HErr
              go_wp2_with fail
              refine HPt.out.mono ?_
              rintro e wC ⟨hres, HbC⟩
              have HWC := Lib.hid (HW9.out.trans (HbC.out.mono HW9.out.size))
              have HTC := Lib.hid (Fc.tab_later HT9.out HbC.out)
              rcases hres with ⟨hok, gr, cr, rfl, HgR, HsR⟩ | ⟨hno, rfl⟩
              · obtain ⟨bs, hbs⟩ : ∃ bs, buf ns p n (nparts n) = bs := ⟨_, rfl⟩
                have hbl : bs.length = n := by rw [← hbs]; exact HBl.out n hc1
                have hbb : ∀ x ∈ bs, x < 256 := by rw [← hbs]; exact buf_byte ns p n _
                rw [hbs] at HRS HsR
                have HSum := Lib.hid (fun W gs (hb : Below wC.heap.size wC W) hc => sum_one W gs gr n cr bs hbl hnb hbb (Lib.hid (Fc.tab_later HTC.out hb)) hc (Fc.src_later HsR.out hb))
                have HBS := Lib.hid (fun _ : True => And.intro hbl hbb)
                have hcl := crc_lt bs
                obtain ⟨cs, hcs⟩ : ∃ cs, Fc.crcOf bs = cs := ⟨_, rfl⟩
                rw [hcs] at HSum HRS hcl
                have hwc : IntKind.i64.wrap ((cs : Nat) : Int) = (cs : Int) := by rw [IntKind.wrap_i64]; omega
                clear hbs hcs hbl hbb HBl HF1 HIN
                by_cases hsm : ((cs : Nat) : Int) = sm
                · have HYes : Hid (readS ns p en ag nr = some bs) := Lib.hid (by rw [HRS.out trivial]; exact if_pos ⟨by first | rfl | trivial, HEY.out trivial, hok, hsm⟩)
                  have hds : decide (((cs : Nat) : Int) = sm) = true := decide_eq_true hsm
                  clear HRS hok
                  go_wp2_with fail
                  have hbA : Below wC.heap.size wC (wC.alloc (.cells #[.slice (some ⟨gr, 0, none⟩) n cr] 34)) := (Below.refl _ _).alloc (Nat.le_refl _) _
                  refine (HSum.out (wC.alloc (.cells #[.slice (some ⟨gr, 0, none⟩) n cr] 34)) wC.heap.size hbA (by simp [World.cell?, Fc.heap_alloc])).mono ?_
                  rintro e wE ⟨rfl, rfl⟩
                  go_wp2_with fail
                  go_ret3
                  exact ⟨.inl ⟨bs, gr, cr, HYes.out, by rw [(HBS.out trivial).1, HRM.out trivial]; exact hc1, (HBS.out trivial).2, by (rw [(HBS.out trivial).1]; rfl), Lib.hid (Nat.le_trans HW9.out.size HgR.out), Lib.hid (Fc.src_later HsR.out hbA)⟩, Lib.hid (HWC.out.trans (hbA.mono HWC.out.size))⟩
                · have HNo : Hid (readS ns p en ag nr = none) := Lib.hid (by rw [HRS.out trivial]; exact if_neg fun h => hsm h.2.2.2)
                  have hds : decide (((cs : Nat) : Int) = sm) = false := decide_eq_false hsm
                  clear HRS hok
                  go_wp2_with fail
                  have hbA : Below wC.heap.size wC (wC.alloc (.cells #[.slice (some ⟨gr, 0, none⟩) n cr] 34)) := (Below.refl _ _).alloc (Nat.le_refl _) _
                  refine (HSum.out (wC.alloc (.cells #[.slice (some ⟨gr, 0, none⟩) n cr] 34)) wC.heap.size hbA (by simp [World.cell?, Fc.heap_alloc])).mono ?_
                  rintro e wE ⟨rfl, rfl⟩
                  go_wp2_with fail
                  go_ret3
                  exact ⟨.inr ⟨HNo.out, rfl⟩, Lib.hid (HWC.out.trans (hbA.mono HWC.out.size))⟩
              · have HNo : Hid (readS ns p en ag nr = none) := Lib.hid (by rw [HRS.out trivial]; exact if_neg fun h => hno h.2.2.1)
                clear HRS hno
                go_wp2_with fail
                go_ret3
                exact ⟨.inr ⟨HNo.out, rfl⟩, HWC⟩
          · have HEE : Hid (∀ (W : World) (ga ca gb : Nat), Fc.Src W (some ⟨ga, 0, none⟩) A → SecRow W gb (firstL ag nr (n : Int) sm) → Calls Tryd.prog 63 #[.slice (some ⟨ga, 0, none⟩) 512 ca, .slice (some ⟨gb, 0, none⟩) 512 512] W fun e w' => e = .returned (.bool false) ∧ W = w') := Lib.hid fun W ga ca gb hs hr => by
              have := HEq.out W ga ca gb hs hr
              rw [decide_eq_false hE] at this
              exact this
            have HNo : Hid (readS ns p en ag nr = none) := Lib.hid (by rw [HRS.out trivial]; exact if_neg fun h => hE h.2.1)
            clear hE HEq
            go_wp2_with fail
            let R : World → World → Prop := fun W W2 => Below W.heap.size W W2
            let V : Nat → Value → World → Prop := fun jX v W => match jX with | 0 => v = .pointer (some ⟨gi, 0, none⟩) | 1 => v = .int .i64 0 | 2 => v = .bool false | 3 => v = .bool false | 4 => v = .slice (some ⟨gd, 0, none⟩) 512 cd | 5 => v = .pointer (some ⟨l, 0, none⟩) | 6 => v = .pointer (some ⟨l, 0, none⟩) | 7 => v = .pointer (some ⟨l, 5, none⟩) | 8 => v = .int .i64 ag | 9 => v = .pointer (some ⟨l, 0, none⟩) | 10 => v = .pointer (some ⟨l, 0, none⟩) | 11 => v = .pointer (some ⟨l, 4, none⟩) | 12 => v = .int .i64 nr | 13 => v = .int .i64 (n : Int) | 14 => v = .int .i64 sm | 15 => ∃ gf, v = .slice (some ⟨gf, 0, none⟩) 512 512 ∧ SecRow W gf (firstL ag nr (n : Int) sm) | 16 => v = .bool false | 17 => v = .bool true | 18 => v = .bool true | _ => True
            refine wp_region_fill (by kernel_rfl) V (fun W => Below w8.heap.size w8 W) R (by kernel_rfl) (by kernel_rfl) ((Below.refl _ _).drew) (fun W W2 hr hi => hi.trans (hr.mono hi.size)) ?_ ?_ ?_
            · intro jX v W W2 hr h
              match jX, h with
              | 0, h => exact h
              | 1, h => exact h
              | 2, h => exact h
              | 3, h => exact h
              | 4, h => exact h
              | 5, h => exact h
              | 6, h => exact h
              | 7, h => exact h
              | 8, h => exact h
              | 9, h => exact h
              | 10, h => exact h
              | 11, h => exact h
              | 12, h => exact h
              | 13, h => exact h
              | 14, h => exact h
              | 15, h => obtain ⟨gf, h1, h2⟩ := h; exact ⟨gf, h1, keep_row h2 (KeepT.of_below (g := g) hr)⟩
              | 16, h => exact h
              | 17, h => exact h
              | 18, h => exact h
              | nX + 19, h => exact h
            · intro iX o ho a W hN hi h
              match iX, ho with
              | 0, ho =>
                obtain rfl := Option.some.inj (show some _ = some o from ho)
                have e7 : a.eval (.tmp 7) = .pointer (some ⟨gi, 0, none⟩) := hN.eval 7 (by kernel_rfl)
                refine fill_value (v := .pointer (some ⟨gi, 0, none⟩)) ho rfl (by rfl) (by clear h hN; have hcst : ∀ v, a.eval (.const v) = v := (fun _ => rfl); have hfun : ∀ f, a.eval (.func f) = .func (.func f) #[] #[] := (fun _ => rfl); generalize a.eval = ρ at *; go_simp) rfl (Below.refl _ _)
              | 1, ho =>
                obtain rfl := Option.some.inj (show some _ = some o from ho)
                have e65 : a.eval (.tmp 65) = .pointer (some ⟨gi, 0, none⟩) := h ⟨0, .data⟩ (by simp) rfl
                refine fill_enter (f := 64) (args := #[.pointer (some ⟨gi, 0, none⟩)]) ho rfl (by rfl) (by clear h hN; have hcst : ∀ v, a.eval (.const v) = v := (fun _ => rfl); have hfun : ∀ f, a.eval (.func f) = .func (.func f) #[] #[] := (fun _ => rfl); generalize a.eval = ρ at *; go_simp) (HErr.out W hi) ?_
                rintro e w2 ⟨rfl, rfl⟩
                exact ⟨_, rfl, rfl, Below.refl _ _⟩
              | 2, ho =>
                obtain rfl := Option.some.inj (show some _ = some o from ho)
                have e66 : a.eval (.tmp 66) = .int .i64 0 := h ⟨1, .data⟩ (by simp) rfl
                refine fill_value (v := .bool false) ho rfl (by rfl) (by clear h hN; have hcst : ∀ v, a.eval (.const v) = v := (fun _ => rfl); have hfun : ∀ f, a.eval (.func f) = .func (.func f) #[] #[] := (fun _ => rfl); generalize a.eval = ρ at *; go_simp) rfl (Below.refl _ _)
              | 3, ho =>
                obtain rfl := Option.some.inj (show some _ = some o from ho)
                have e67 : a.eval (.tmp 67) = .bool false := h ⟨2, .data⟩ (by simp) rfl
                refine fill_value (v := .bool false) ho rfl (by rfl) (by clear h hN; have hcst : ∀ v, a.eval (.const v) = v := (fun _ => rfl); have hfun : ∀ f, a.eval (.func f) = .func (.func f) #[] #[] := (fun _ => rfl); generalize a.eval = ρ at *; go_simp) rfl (Below.refl _ _)
              | 4, ho =>
                obtain rfl := Option.some.inj (show some _ = some o from ho)
                have e5 : a.eval (.tmp 5) = .slice (some ⟨gd, 0, none⟩) 512 cd := hN.eval 5 (by kernel_rfl)
                refine fill_value (v := .slice (some ⟨gd, 0, none⟩) 512 cd) ho rfl (guard_is false rfl rfl (show a.eval (.tmp 68) = .bool false from h ⟨3, .guard⟩ (by simp) rfl)) (by clear h hN; have hcst : ∀ v, a.eval (.const v) = v := (fun _ => rfl); have hfun : ∀ f, a.eval (.func f) = .func (.func f) #[] #[] := (fun _ => rfl); generalize a.eval = ρ at *; go_simp) rfl (Below.refl _ _)
              | 5, ho =>
                obtain rfl := Option.some.inj (show some _ = some o from ho)
                have e0 : a.eval (.tmp 0) = .pointer (some ⟨l, 0, none⟩) := hN.eval 0 (by kernel_rfl)
                refine fill_value (v := .pointer (some ⟨l, 0, none⟩)) ho rfl (guard_is false rfl rfl (show a.eval (.tmp 68) = .bool false from h ⟨3, .guard⟩ (by simp) rfl)) (by clear h hN; have hcst : ∀ v, a.eval (.const v) = v := (fun _ => rfl); have hfun : ∀ f, a.eval (.func f) = .func (.func f) #[] #[] := (fun _ => rfl); generalize a.eval = ρ at *; go_simp) rfl (Below.refl _ _)
              | 6, ho =>
                obtain rfl := Option.some.inj (show some _ = some o from ho)
                have e70 : a.eval (.tmp 70) = .pointer (some ⟨l, 0, none⟩) := h ⟨5, .data⟩ (by simp) rfl
                refine fill_value (v := .pointer (some ⟨l, 0, none⟩)) ho rfl (guard_is false rfl rfl (show a.eval (.tmp 68) = .bool false from h ⟨3, .guard⟩ (by simp) rfl)) (by clear h hN; have hcst : ∀ v, a.eval (.const v) = v := (fun _ => rfl); have hfun : ∀ f, a.eval (.func f) = .func (.func f) #[] #[] := (fun _ => rfl); generalize a.eval = ρ at *; go_simp) rfl (Below.refl _ _)
              | 7, ho =>
                obtain rfl := Option.some.inj (show some _ = some o from ho)
                have e71 : a.eval (.tmp 71) = .pointer (some ⟨l, 0, none⟩) := h ⟨6, .data⟩ (by simp) rfl
                refine fill_value (v := .pointer (some ⟨l, 5, none⟩)) ho rfl (guard_is false rfl rfl (show a.eval (.tmp 68) = .bool false from h ⟨3, .guard⟩ (by simp) rfl)) (by clear h hN; have hcst : ∀ v, a.eval (.const v) = v := (fun _ => rfl); have hfun : ∀ f, a.eval (.func f) = .func (.func f) #[] #[] := (fun _ => rfl); generalize a.eval = ρ at *; go_simp) rfl (Below.refl _ _)
              | 8, ho =>
                obtain rfl := Option.some.inj (show some _ = some o from ho)
                have e72 : a.eval (.tmp 72) = .pointer (some ⟨l, 5, none⟩) := h ⟨7, .data⟩ (by simp) rfl
                have hc := HE5.out W hi
                refine fill_value (v := .int .i64 ag) ho rfl (guard_is false rfl rfl (show a.eval (.tmp 68) = .bool false from h ⟨3, .guard⟩ (by simp) rfl)) (by clear h hN; have hcst : ∀ v, a.eval (.const v) = v := (fun _ => rfl); have hfun : ∀ f, a.eval (.func f) = .func (.func f) #[] #[] := (fun _ => rfl); generalize a.eval = ρ at *; go_simp) rfl (Below.refl _ _)
              | 9, ho =>
                obtain rfl := Option.some.inj (show some _ = some o from ho)
                have e0 : a.eval (.tmp 0) = .pointer (some ⟨l, 0, none⟩) := hN.eval 0 (by kernel_rfl)
                refine fill_value (v := .pointer (some ⟨l, 0, none⟩)) ho rfl (guard_is false rfl rfl (show a.eval (.tmp 68) = .bool false from h ⟨3, .guard⟩ (by simp) rfl)) (by clear h hN; have hcst : ∀ v, a.eval (.const v) = v := (fun _ => rfl); have hfun : ∀ f, a.eval (.func f) = .func (.func f) #[] #[] := (fun _ => rfl); generalize a.eval = ρ at *; go_simp) rfl (Below.refl _ _)
              | 10, ho =>
                obtain rfl := Option.some.inj (show some _ = some o from ho)
                have e74 : a.eval (.tmp 74) = .pointer (some ⟨l, 0, none⟩) := h ⟨9, .data⟩ (by simp) rfl
                refine fill_value (v := .pointer (some ⟨l, 0, none⟩)) ho rfl (guard_is false rfl rfl (show a.eval (.tmp 68) = .bool false from h ⟨3, .guard⟩ (by simp) rfl)) (by clear h hN; have hcst : ∀ v, a.eval (.const v) = v := (fun _ => rfl); have hfun : ∀ f, a.eval (.func f) = .func (.func f) #[] #[] := (fun _ => rfl); generalize a.eval = ρ at *; go_simp) rfl (Below.refl _ _)
              | 11, ho =>
                obtain rfl := Option.some.inj (show some _ = some o from ho)
                have e75 : a.eval (.tmp 75) = .pointer (some ⟨l, 0, none⟩) := h ⟨10, .data⟩ (by simp) rfl
                refine fill_value (v := .pointer (some ⟨l, 4, none⟩)) ho rfl (guard_is false rfl rfl (show a.eval (.tmp 68) = .bool false from h ⟨3, .guard⟩ (by simp) rfl)) (by clear h hN; have hcst : ∀ v, a.eval (.const v) = v := (fun _ => rfl); have hfun : ∀ f, a.eval (.func f) = .func (.func f) #[] #[] := (fun _ => rfl); generalize a.eval = ρ at *; go_simp) rfl (Below.refl _ _)
              | 12, ho =>
                obtain rfl := Option.some.inj (show some _ = some o from ho)
                have e76 : a.eval (.tmp 76) = .pointer (some ⟨l, 4, none⟩) := h ⟨11, .data⟩ (by simp) rfl
                have hc := HE4.out W hi
                refine fill_value (v := .int .i64 nr) ho rfl (guard_is false rfl rfl (show a.eval (.tmp 68) = .bool false from h ⟨3, .guard⟩ (by simp) rfl)) (by clear h hN; have hcst : ∀ v, a.eval (.const v) = v := (fun _ => rfl); have hfun : ∀ f, a.eval (.func f) = .func (.func f) #[] #[] := (fun _ => rfl); generalize a.eval = ρ at *; go_simp) rfl (Below.refl _ _)
              | 13, ho =>
                obtain rfl := Option.some.inj (show some _ = some o from ho)
                have e8 : a.eval (.tmp 8) = .int .i64 (n : Int) := hN.eval 8 (by kernel_rfl)
                refine fill_value (v := .int .i64 (n : Int)) ho rfl (guard_is false rfl rfl (show a.eval (.tmp 68) = .bool false from h ⟨3, .guard⟩ (by simp) rfl)) (by clear h hN; have hcst : ∀ v, a.eval (.const v) = v := (fun _ => rfl); have hfun : ∀ f, a.eval (.func f) = .func (.func f) #[] #[] := (fun _ => rfl); generalize a.eval = ρ at *; go_simp) rfl (Below.refl _ _)
              | 14, ho =>
                obtain rfl := Option.some.inj (show some _ = some o from ho)
                have e9 : a.eval (.tmp 9) = .int .i64 sm := hN.eval 9 (by kernel_rfl)
                refine fill_value (v := .int .i64 sm) ho rfl (guard_is false rfl rfl (show a.eval (.tmp 68) = .bool false from h ⟨3, .guard⟩ (by simp) rfl)) (by clear h hN; have hcst : ∀ v, a.eval (.const v) = v := (fun _ => rfl); have hfun : ∀ f, a.eval (.func f) = .func (.func f) #[] #[] := (fun _ => rfl); generalize a.eval = ρ at *; go_simp) rfl (Below.refl _ _)
              | 15, ho =>
                obtain rfl := Option.some.inj (show some _ = some o from ho)
                have e73 : a.eval (.tmp 73) = .int .i64 ag := h ⟨8, .data⟩ (by simp) rfl
                have e77 : a.eval (.tmp 77) = .int .i64 nr := h ⟨12, .data⟩ (by simp) rfl
                have e78 : a.eval (.tmp 78) = .int .i64 (n : Int) := h ⟨13, .data⟩ (by simp) rfl
                have e79 : a.eval (.tmp 79) = .int .i64 sm := h ⟨14, .data⟩ (by simp) rfl
                refine fill_enter (f := 56) (args := #[.int .i64 ag, .int .i64 nr, .int .i64 (n : Int), .int .i64 sm]) ho rfl (guard_is false rfl rfl (show a.eval (.tmp 68) = .bool false from h ⟨3, .guard⟩ (by simp) rfl)) (by clear h hN; have hcst : ∀ v, a.eval (.const v) = v := (fun _ => rfl); have hfun : ∀ f, a.eval (.func f) = .func (.func f) #[] #[] := (fun _ => rfl); generalize a.eval = ρ at *; go_simp) (HFs.out W (Lib.hid (Fc.tab_later HT8.out hi))) ?_
                rintro e w2 ⟨gf, rfl, h4, h5, h6, h7⟩
                exact ⟨_, rfl, ⟨_, rfl, h5⟩, h6⟩
              | 16, ho =>
                obtain rfl := Option.some.inj (show some _ = some o from ho)
                have e69 : a.eval (.tmp 69) = .slice (some ⟨gd, 0, none⟩) 512 cd := h ⟨4, .data⟩ (by simp) rfl
                obtain ⟨gf, e80, p80⟩ : ∃ gf, a.eval (.tmp 80) = .slice (some ⟨gf, 0, none⟩) 512 512 ∧ SecRow W gf (firstL ag nr (n : Int) sm) := h ⟨15, .data⟩ (by simp) rfl
                refine fill_enter (f := 63) (args := #[.slice (some ⟨gd, 0, none⟩) 512 cd, .slice (some ⟨gf, 0, none⟩) 512 512]) ho rfl (guard_is false rfl rfl (show a.eval (.tmp 68) = .bool false from h ⟨3, .guard⟩ (by simp) rfl)) (by clear h hN; have hcst : ∀ v, a.eval (.const v) = v := (fun _ => rfl); have hfun : ∀ f, a.eval (.func f) = .func (.func f) #[] #[] := (fun _ => rfl); generalize a.eval = ρ at *; go_simp) (HEE.out W gd cd gf (Fc.src_later HS8.out hi) p80) ?_
                rintro e w2 ⟨rfl, rfl⟩
                exact ⟨_, rfl, rfl, Below.refl _ _⟩
              | 17, ho =>
                obtain rfl := Option.some.inj (show some _ = some o from ho)
                have e81 : a.eval (.tmp 81) = .bool false := h ⟨16, .data⟩ (by simp) rfl
                refine fill_value (v := .bool true) ho rfl (guard_is false rfl rfl (show a.eval (.tmp 68) = .bool false from h ⟨3, .guard⟩ (by simp) rfl)) (by clear h hN; have hcst : ∀ v, a.eval (.const v) = v := (fun _ => rfl); have hfun : ∀ f, a.eval (.func f) = .func (.func f) #[] #[] := (fun _ => rfl); generalize a.eval = ρ at *; go_simp) rfl (Below.refl _ _)
              | 18, ho =>
                obtain rfl := Option.some.inj (show some _ = some o from ho)
                have e68 : a.eval (.tmp 68) = .bool false := h ⟨3, .data⟩ (by simp) rfl
                have e82 : a.eval (.tmp 82) = .bool true := h ⟨17, .data⟩ (by simp) rfl
                refine fill_value (v := .bool true) ho rfl (by rfl) (by clear h hN; have hcst : ∀ v, a.eval (.const v) = v := (fun _ => rfl); have hfun : ∀ f, a.eval (.func f) = .func (.func f) #[] #[] := (fun _ => rfl); generalize a.eval = ρ at *; go_simp) rfl (Below.refl _ _)
              | nX + 19, ho => exact absurd ho (by simp)
            · intro vals W hi h
              have u0 : vals 0 = .pointer (some ⟨gi, 0, none⟩) := h 0 (by decide)
              have u1 : vals 1 = .int .i64 0 := h 1 (by decide)
              have u2 : vals 2 = .bool false := h 2 (by decide)
              have u3 : vals 3 = .bool false := h 3 (by decide)
              have u4 : vals 4 = .slice (some ⟨gd, 0, none⟩) 512 cd := h 4 (by decide)
              have u5 : vals 5 = .pointer (some ⟨l, 0, none⟩) := h 5 (by decide)
              have u6 : vals 6 = .pointer (some ⟨l, 0, none⟩) := h 6 (by decide)
              have u7 : vals 7 = .pointer (some ⟨l, 5, none⟩) := h 7 (by decide)
              have u8 : vals 8 = .int .i64 ag := h 8 (by decide)
              have u9 : vals 9 = .pointer (some ⟨l, 0, none⟩) := h 9 (by decide)
              have u10 : vals 10 = .pointer (some ⟨l, 0, none⟩) := h 10 (by decide)
              have u11 : vals 11 = .pointer (some ⟨l, 4, none⟩) := h 11 (by decide)
              have u12 : vals 12 = .int .i64 nr := h 12 (by decide)
              have u13 : vals 13 = .int .i64 (n : Int) := h 13 (by decide)
              have u14 : vals 14 = .int .i64 sm := h 14 (by decide)
              obtain ⟨gf, u15, p15⟩ : ∃ gf, vals 15 = .slice (some ⟨gf, 0, none⟩) 512 512 ∧ SecRow W gf (firstL ag nr (n : Int) sm) := h 15 (by decide)
              have u16 : vals 16 = .bool false := h 16 (by decide)
              have u17 : vals 17 = .bool true := h 17 (by decide)
              have u18 : vals 18 = .bool true := h 18 (by decide)
              generalize hA : fill _ _ _ _ = A
              have hA2 : (Act.put (Act.put (Act.put (Act.put (Act.put (Act.put (Act.put (Act.put (Act.put (Act.put (Act.put (Act.put (Act.put (Act.put (Act.put (Act.put (Act.put (Act.put (Act.put (_ : Act) (some 65) (vals 0)) (some 66) (vals 1)) (some 67) (vals 2)) (some 68) (vals 3)) (some 69) (vals 4)) (some 70) (vals 5)) (some 71) (vals 6)) (some 72) (vals 7)) (some 73) (vals 8)) (some 74) (vals 9)) (some 75) (vals 10)) (some 76) (vals 11)) (some 77) (vals 12)) (some 78) (vals 13)) (some 79) (vals 14)) (some 80) (vals 15)) (some 81) (vals 16)) (some 82) (vals 17)) (some 83) (vals 18)) = A := hA
              clear hA h V R
              rw [u0, u1, u2, u3, u4, u5, u6, u7, u8, u9, u10, u11, u12, u13, u14, u15, u16, u17, u18] at hA2
              simp only [fill, Act.put, List.setIfInBounds_toArray, List.set_cons_succ, List.set_cons_zero] at hA2
              subst hA2
              clear u0 u1 u2 u3 u4 u5 u6 u7 u8 u9 u10 u11 u12 u13 u14 u15 u16 u17 u18
              go_wp2_with fail
              go_ret3
              exact ⟨.inr ⟨HNo.out, rfl⟩, Lib.hid (HW8.out.trans (hi.mono HW8.out.size))⟩
        · have hd4 : decide (e4 = 0) = false := decide_eq_false he4
          have HNo : Hid (readS ns p en ag nr = none) := Lib.hid (by rw [HRS.out trivial]; exact if_neg fun h => he4 h.1)
          have hd5 : (e4 == 0) = false := by simp [he4]
          clear HEq HFs
          go_wp2_with fail
          let R : World → World → Prop := fun W W2 => Below W.heap.size W W2
          let V : Nat → Value → World → Prop := fun jX v W => match jX with | 0 => v = .pointer (some ⟨gi, 0, none⟩) | 1 => v = .int .i64 e4 | 2 => v = .bool true | 3 => v = .bool true | 4 => v = undef | 5 => v = undef | 6 => v = undef | 7 => v = undef | 8 => v = undef | 9 => v = undef | 10 => v = undef | 11 => v = undef | 12 => v = undef | 13 => v = undef | 14 => v = undef | 15 => v = undef | 16 => v = undef | 17 => v = undef | 18 => v = .bool true | _ => True
          refine wp_region_fill (by kernel_rfl) V (fun W => Below w8.heap.size w8 W) R (by kernel_rfl) (by kernel_rfl) ((Below.refl _ _).drew) (fun W W2 hr hi => hi.trans (hr.mono hi.size)) ?_ ?_ ?_
          · intro jX v W W2 hr h
            match jX, h with
            | 0, h => exact h
            | 1, h => exact h
            | 2, h => exact h
            | 3, h => exact h
            | 4, h => exact h
            | 5, h => exact h
            | 6, h => exact h
            | 7, h => exact h
            | 8, h => exact h
            | 9, h => exact h
            | 10, h => exact h
            | 11, h => exact h
            | 12, h => exact h
            | 13, h => exact h
            | 14, h => exact h
            | 15, h => exact h
            | 16, h => exact h
            | 17, h => exact h
            | 18, h => exact h
            | nX + 19, h => exact h
          · intro iX o ho a W hN hi h
            match iX, ho with
            | 0, ho =>
              obtain rfl := Option.some.inj (show some _ = some o from ho)
              have e7 : a.eval (.tmp 7) = .pointer (some ⟨gi, 0, none⟩) := hN.eval 7 (by kernel_rfl)
              refine fill_value (v := .pointer (some ⟨gi, 0, none⟩)) ho rfl (by rfl) (by clear h hN; have hcst : ∀ v, a.eval (.const v) = v := (fun _ => rfl); have hfun : ∀ f, a.eval (.func f) = .func (.func f) #[] #[] := (fun _ => rfl); generalize a.eval = ρ at *; go_simp) rfl (Below.refl _ _)
            | 1, ho =>
              obtain rfl := Option.some.inj (show some _ = some o from ho)
              have e65 : a.eval (.tmp 65) = .pointer (some ⟨gi, 0, none⟩) := h ⟨0, .data⟩ (by simp) rfl
              refine fill_enter (f := 64) (args := #[.pointer (some ⟨gi, 0, none⟩)]) ho rfl (by rfl) (by clear h hN; have hcst : ∀ v, a.eval (.const v) = v := (fun _ => rfl); have hfun : ∀ f, a.eval (.func f) = .func (.func f) #[] #[] := (fun _ => rfl); generalize a.eval = ρ at *; go_simp) (HErr.out W hi) ?_
              rintro e w2 ⟨rfl, rfl⟩
              exact ⟨_, rfl, rfl, Below.refl _ _⟩
            | 2, ho =>
              obtain rfl := Option.some.inj (show some _ = some o from ho)
              have e66 : a.eval (.tmp 66) = .int .i64 e4 := h ⟨1, .data⟩ (by simp) rfl
              refine fill_value (v := .bool true) ho rfl (by rfl) (by clear h hN; have hcst : ∀ v, a.eval (.const v) = v := (fun _ => rfl); have hfun : ∀ f, a.eval (.func f) = .func (.func f) #[] #[] := (fun _ => rfl); generalize a.eval = ρ at *; go_simp) rfl (Below.refl _ _)
            | 3, ho =>
              obtain rfl := Option.some.inj (show some _ = some o from ho)
              have e67 : a.eval (.tmp 67) = .bool true := h ⟨2, .data⟩ (by simp) rfl
              refine fill_value (v := .bool true) ho rfl (by rfl) (by clear h hN; have hcst : ∀ v, a.eval (.const v) = v := (fun _ => rfl); have hfun : ∀ f, a.eval (.func f) = .func (.func f) #[] #[] := (fun _ => rfl); generalize a.eval = ρ at *; go_simp) rfl (Below.refl _ _)
            | 4, ho =>
              obtain rfl := Option.some.inj (show some _ = some o from ho)
              exact fill_skip ho (guard_is false rfl rfl (show a.eval (.tmp 68) = .bool true from h ⟨3, .guard⟩ (by simp) rfl)) rfl (Below.refl _ _)
            | 5, ho =>
              obtain rfl := Option.some.inj (show some _ = some o from ho)
              exact fill_skip ho (guard_is false rfl rfl (show a.eval (.tmp 68) = .bool true from h ⟨3, .guard⟩ (by simp) rfl)) rfl (Below.refl _ _)
            | 6, ho =>
              obtain rfl := Option.some.inj (show some _ = some o from ho)
              exact fill_skip ho (guard_is false rfl rfl (show a.eval (.tmp 68) = .bool true from h ⟨3, .guard⟩ (by simp) rfl)) rfl (Below.refl _ _)
            | 7, ho =>
              obtain rfl := Option.some.inj (show some _ = some o from ho)
              exact fill_skip ho (guard_is false rfl rfl (show a.eval (.tmp 68) = .bool true from h ⟨3, .guard⟩ (by simp) rfl)) rfl (Below.refl _ _)
            | 8, ho =>
              obtain rfl := Option.some.inj (show some _ = some o from ho)
              exact fill_skip ho (guard_is false rfl rfl (show a.eval (.tmp 68) = .bool true from h ⟨3, .guard⟩ (by simp) rfl)) rfl (Below.refl _ _)
            | 9, ho =>
              obtain rfl := Option.some.inj (show some _ = some o from ho)
              exact fill_skip ho (guard_is false rfl rfl (show a.eval (.tmp 68) = .bool true from h ⟨3, .guard⟩ (by simp) rfl)) rfl (Below.refl _ _)
            | 10, ho =>
              obtain rfl := Option.some.inj (show some _ = some o from ho)
              exact fill_skip ho (guard_is false rfl rfl (show a.eval (.tmp 68) = .bool true from h ⟨3, .guard⟩ (by simp) rfl)) rfl (Below.refl _ _)
            | 11, ho =>
              obtain rfl := Option.some.inj (show some _ = some o from ho)
              exact fill_skip ho (guard_is false rfl rfl (show a.eval (.tmp 68) = .bool true from h ⟨3, .guard⟩ (by simp) rfl)) rfl (Below.refl _ _)
            | 12, ho =>
              obtain rfl := Option.some.inj (show some _ = some o from ho)
              exact fill_skip ho (guard_is false rfl rfl (show a.eval (.tmp 68) = .bool true from h ⟨3, .guard⟩ (by simp) rfl)) rfl (Below.refl _ _)
            | 13, ho =>
              obtain rfl := Option.some.inj (show some _ = some o from ho)
              exact fill_skip ho (guard_is false rfl rfl (show a.eval (.tmp 68) = .bool true from h ⟨3, .guard⟩ (by simp) rfl)) rfl (Below.refl _ _)
            | 14, ho =>
              obtain rfl := Option.some.inj (show some _ = some o from ho)
              exact fill_skip ho (guard_is false rfl rfl (show a.eval (.tmp 68) = .bool true from h ⟨3, .guard⟩ (by simp) rfl)) rfl (Below.refl _ _)
            | 15, ho =>
              obtain rfl := Option.some.inj (show some _ = some o from ho)
              exact fill_skip ho (guard_is false rfl rfl (show a.eval (.tmp 68) = .bool true from h ⟨3, .guard⟩ (by simp) rfl)) rfl (Below.refl _ _)
            | 16, ho =>
              obtain rfl := Option.some.inj (show some _ = some o from ho)
              exact fill_skip ho (guard_is false rfl rfl (show a.eval (.tmp 68) = .bool true from h ⟨3, .guard⟩ (by simp) rfl)) rfl (Below.refl _ _)
            | 17, ho =>
              obtain rfl := Option.some.inj (show some _ = some o from ho)
              exact fill_skip ho (guard_is false rfl rfl (show a.eval (.tmp 68) = .bool true from h ⟨3, .guard⟩ (by simp) rfl)) rfl (Below.refl _ _)
            | 18, ho =>
              obtain rfl := Option.some.inj (show some _ = some o from ho)
              have e68 : a.eval (.tmp 68) = .bool true := h ⟨3, .data⟩ (by simp) rfl
              have e82 : a.eval (.tmp 82) = undef := h ⟨17, .data⟩ (by simp) rfl
              refine fill_value (v := .bool true) ho rfl (by rfl) (by clear h hN; have hcst : ∀ v, a.eval (.const v) = v := (fun _ => rfl); have hfun : ∀ f, a.eval (.func f) = .func (.func f) #[] #[] := (fun _ => rfl); generalize a.eval = ρ at *; go_simp) rfl (Below.refl _ _)
            | nX + 19, ho => exact absurd ho (by simp)
          · intro vals W hi h
            have u0 : vals 0 = .pointer (some ⟨gi, 0, none⟩) := h 0 (by decide)
            have u1 : vals 1 = .int .i64 e4 := h 1 (by decide)
            have u2 : vals 2 = .bool true := h 2 (by decide)
            have u3 : vals 3 = .bool true := h 3 (by decide)
            have u4 : vals 4 = undef := h 4 (by decide)
            have u5 : vals 5 = undef := h 5 (by decide)
            have u6 : vals 6 = undef := h 6 (by decide)
            have u7 : vals 7 = undef := h 7 (by decide)
            have u8 : vals 8 = undef := h 8 (by decide)
            have u9 : vals 9 = undef := h 9 (by decide)
            have u10 : vals 10 = undef := h 10 (by decide)
            have u11 : vals 11 = undef := h 11 (by decide)
            have u12 : vals 12 = undef := h 12 (by decide)
            have u13 : vals 13 = undef := h 13 (by decide)
            have u14 : vals 14 = undef := h 14 (by decide)
            have u15 : vals 15 = undef := h 15 (by decide)
            have u16 : vals 16 = undef := h 16 (by decide)
            have u17 : vals 17 = undef := h 17 (by decide)
            have u18 : vals 18 = .bool true := h 18 (by decide)
            generalize hA : fill _ _ _ _ = A
            have hA2 : (Act.put (Act.put (Act.put (Act.put (Act.put (Act.put (Act.put (Act.put (Act.put (Act.put (Act.put (Act.put (Act.put (Act.put (Act.put (Act.put (Act.put (Act.put (Act.put (_ : Act) (some 65) (vals 0)) (some 66) (vals 1)) (some 67) (vals 2)) (some 68) (vals 3)) (some 69) (vals 4)) (some 70) (vals 5)) (some 71) (vals 6)) (some 72) (vals 7)) (some 73) (vals 8)) (some 74) (vals 9)) (some 75) (vals 10)) (some 76) (vals 11)) (some 77) (vals 12)) (some 78) (vals 13)) (some 79) (vals 14)) (some 80) (vals 15)) (some 81) (vals 16)) (some 82) (vals 17)) (some 83) (vals 18)) = A := hA
            clear hA h V R
            rw [u0, u1, u2, u3, u4, u5, u6, u7, u8, u9, u10, u11, u12, u13, u14, u15, u16, u17, u18] at hA2
            simp only [fill, Act.put, List.setIfInBounds_toArray, List.set_cons_succ, List.set_cons_zero] at hA2
            subst hA2
            clear u0 u1 u2 u3 u4 u5 u6 u7 u8 u9 u10 u11 u12 u13 u14 u15 u16 u17 u18
            go_wp2_with fail
            go_ret3
            exact ⟨.inr ⟨HNo.out, rfl⟩, Lib.hid (HW8.out.trans (hi.mono HW8.out.size))⟩
end Go.Proofs.YtfhgdcljhncjmaaDoor
