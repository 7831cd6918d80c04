/- What a crash leaves: the maths of DiskKeeps; the disk's calls, with what lies beside the disk. -/
import Derived.Test.YtmojieomdbfjcaaLasts
namespace Go.Proofs.Ytmojieomdbfjcaa
open Go.ChangeShapes Go.WideShapes Go.ChangeAt Go.RowKit

theorem setAll_add (ls : List Value) (W : List (Nat × ByteArray)) (n : Nat) (s : ByteArray) : setAll ls (W ++ [(n, s)]) = (setAll ls W).set n (.string s) := by
  unfold setAll; rw [List.foldl_append]; rfl
theorem setAll_none (ls : List Value) (W : List (Nat × ByteArray)) (n : Nat) (h : ∀ x ∈ W, x.1 ≠ n) : (setAll ls W)[n]? = ls[n]? := by
  unfold setAll
  induction W generalizing ls with
  | nil => rfl
  | cons x t ih =>
    rw [List.foldl_cons, ih _ fun y hy => h y (List.mem_cons_of_mem _ hy), List.getElem?_set_ne (h x (List.mem_cons_self ..))]
theorem pickTo_none (ls : List Value) (W : List (Nat × ByteArray)) (f : Nat → Bool) (n : Nat) : ∀ k, (∀ j, j < k → (W.getD j (0, ByteArray.empty)).1 ≠ n) → (pickTo ls W f k)[n]? = ls[n]?
  | 0, _ => rfl
  | k + 1, h => by
    have ih := pickTo_none ls W f n k fun j hj => h j (by omega)
    unfold pickTo
    split
    · rw [List.getElem?_set_ne (h k (by omega)), ih]
    · exact ih
theorem nowTo_none (ns ls : List Value) (W : List (Nat × ByteArray)) (n : Nat) : ∀ k, (∀ j, j < k → (W.getD j (0, ByteArray.empty)).1 ≠ n) → (nowTo ns ls W k)[n]? = ns[n]?
  | 0, _ => rfl
  | k + 1, h => by
    have ih := nowTo_none ns ls W n k fun j hj => h j (by omega)
    unfold nowTo
    rw [List.getElem?_set_ne (h k (by omega)), ih]
theorem nowTo_some (ns ls : List Value) (W : List (Nat × ByteArray)) (n : Nat) (hn : n < ns.length) (hl : n < ls.length) : ∀ k, (∃ j, j < k ∧ (W.getD j (0, ByteArray.empty)).1 = n) → (nowTo ns ls W k)[n]? = ls[n]?
  | 0, h => by obtain ⟨j, hj, _⟩ := h; omega
  | k + 1, h => by
    unfold nowTo
    by_cases e : (W.getD k (0, ByteArray.empty)).1 = n
    · rw [e, List.getElem?_set_self (by rw [nowTo_len]; exact hn), List.getElem?_eq_getElem hl]
      simp [List.getD, hl]
    · rw [List.getElem?_set_ne e]
      obtain ⟨j, hj, h2⟩ := h
      exact nowTo_some ns ls W n hn hl k ⟨j, by rcases Nat.lt_succ_iff_lt_or_eq.1 hj with h' | h'; exact h'; rw [h'] at h2; exact absurd h2 e, h2⟩
theorem pickTo_get (ls : List Value) (W : List (Nat × ByteArray)) (f : Nat → Bool) (n : Nat) (hn : n < ls.length) : ∀ k, (pickTo ls W f k)[n]? = ls[n]? ∨ ∃ j, j < k ∧ (W.getD j (0, ByteArray.empty)).1 = n ∧ (pickTo ls W f k)[n]? = some (.string (W.getD j (0, ByteArray.empty)).2)
  | 0 => .inl rfl
  | k + 1 => by
    have ih : (pickTo ls W f k)[n]? = ls[n]? ∨ ∃ j, j < k + 1 ∧ (W.getD j (0, ByteArray.empty)).1 = n ∧ (pickTo ls W f k)[n]? = some (.string (W.getD j (0, ByteArray.empty)).2) := (pickTo_get ls W f n hn k).imp id fun ⟨j, a, b⟩ => ⟨j, by omega, b⟩
    by_cases hf : f k = true
    · have e : pickTo ls W f (k + 1) = (pickTo ls W f k).set (W.getD k (0, ByteArray.empty)).1 (.string (W.getD k (0, ByteArray.empty)).2) := by
        show (if f k = true then _ else _) = _
        rw [if_pos hf]
      rw [e]
      by_cases h : (W.getD k (0, ByteArray.empty)).1 = n
      · exact .inr ⟨k, by omega, h, by rw [h, List.getElem?_set_self (by rw [pickTo_len]; exact hn)]⟩
      · rw [List.getElem?_set_ne h]; exact ih
    · have e : pickTo ls W f (k + 1) = pickTo ls W f k := by
        show (if f k = true then _ else _) = _
        rw [if_neg hf]
      rw [e]; exact ih
/-- behind a crash: what lasted, or one of the writes -/
theorem keep_get (ls : List Value) (W : List (Nat × ByteArray)) (f : Nat → Bool) (n : Nat) (hn : n < ls.length) : (nowTo (setAll ls W) (pickTo ls W f W.length) W W.length)[n]? = ls[n]? ∨
    ∃ j, j < W.length ∧ (W.getD j (0, ByteArray.empty)).1 = n ∧ (nowTo (setAll ls W) (pickTo ls W f W.length) W W.length)[n]? = some (.string (W.getD j (0, ByteArray.empty)).2) := by
  by_cases h : ∃ j, j < W.length ∧ (W.getD j (0, ByteArray.empty)).1 = n
  · rw [nowTo_some _ _ W n (by rw [setAll_len]; exact hn) (by rw [pickTo_len]; exact hn) _ h]
    exact pickTo_get ls W f n hn _
  · refine .inl ?_
    rw [nowTo_none _ _ W n _ fun j hj e => h ⟨j, hj, e⟩]
    refine setAll_none ls W n fun x hx e => ?_
    obtain ⟨j, hj, hxj⟩ := List.getElem_of_mem hx
    exact h ⟨j, hj, by simp [List.getD, hj, hxj, e]⟩
theorem repeatL_flat : ∀ (c : Nat), (Lib.repeatL [0] c : List UInt8) = List.replicate c 0
  | 0 => rfl
  | c + 1 => by
    have := repeatL_flat c
    simp [Lib.repeatL, List.replicate_succ] at this ⊢
    exact this
theorem zeros_sec : zeros = secS 0 := by
  apply ByteArray.ext
  apply Array.toList_inj.1
  have h1 : zeros.data.toList = Lib.repeatL [0] 512 := rfl
  have h2 : (secS 0).data.toList = List.replicate 512 0 := by
    unfold secS
    rw [strOfNums_data, List.map_replicate]
    rfl
  rw [h1, h2, repeatL_flat]

/-- beside the disk -/
def Side (w : World) (q g gn gl : Nat) (vw : Value) : Prop := q ≠ g ∧ q ≠ gn ∧ q ≠ gl ∧ vw.ownBlock ≠ some q ∧ q < w.heap.size
section
variable {B : Nat} {w : World} {g gn gl L cn cl : Nat} {vw : Value} {ns ls : List Value} {W : List (Nat × ByteArray)} {st : Int} {ar : Bool} {le : Int} {off : Bool}
theorem dk_write2 (le' : Int) (hle : (if ar = true then le - 1 else le) = le') (i : Int) (n : Nat) (hni : (n : Int) = i) (h : DkAt B w g gn gl L cn cl vw ns ls W st ar le false) (hn : n < L) (gb : Nat) (x : Int) (hs : Sec w gb x) (hgb : gb ≠ g) (hm : W.length ≤ 1000000) (h0 : 0 ≤ le) (h1 : le ≤ 9223372036854775807) (h2 : 0 ≤ st) (h3 : st ≤ 1000000000) (hd : ¬ (ar = true ∧ le = 0)) :
    Calls Try.prog 8 #[.pointer (some ⟨g, 0, none⟩), .int .i64 i, .slice (some ⟨gb, 0, none⟩) 512 512] w fun e w' => e = .returned (.int .i64 0) ∧
      ∃ gw cw, DkAt B w' g gn gl L cn cl (.slice (some ⟨gw, 0, none⟩) (W.length + 1) cw) (ns.set n (.string (secS x))) ls (W ++ [(n, secS x)]) (st + 1) ar le' false ∧ Below B w w' ∧ ∀ q, Side w q g gn gl vw → Side w' q g gn gl (.slice (some ⟨gw, 0, none⟩) (W.length + 1) cw) ∧ w'.heap[q]? = w.heap[q]? := by
  subst hni
  subst hle
  refine (write_ok g _ _ vw st ar le w _ rfl W.length (wcells W) hm (Lib.hid h.own) (Lib.hid h.ne.2.2.2.1) gn L cn ns n hn (some ⟨gb, 0, none⟩) 512 (secS x) h0 h1 h2 h3 rfl (Lib.hid h.now) (Lib.hid ⟨h.ne.1, h.ne.2.2.2.2.1⟩) (Lib.hid h.head) hd (Lib.hid fun V hV => sec_conv (own_only hs hV fun k hk e => hgb (by cases hk; exact e)))).mono ?_
  rintro e w' ⟨rfl, gw, cw, a1, a2, a3, a4, a5, a6, a7⟩
  have hB := dk_size h
  have r3 := own_only h.rows a7 fun k hk e => by
    cases hk
    rcases e with e | e | e
    · exact h.ne.2.1 e
    · exact h.ne.2.2.2.2.2 e
    · exact h.ne.2.2.1 e.symm
  have hgl : gw ≠ gl := fun e => by
    obtain ⟨cur, hq⟩ := own_type a2
    obtain ⟨cur', hq'⟩ := own_type r3
    rw [e, hq'] at hq
    exact absurd hq (by simp)
  have hge : B ≤ gw := a4.elim (fun e => h.ge.2.2.2 _ e) (fun e => Nat.le_trans hB e)
  refine ⟨rfl, gw, cw, ⟨a1, a3, r3, ?_, ⟨h.ge.1, h.ge.2.1, h.ge.2.2.1, fun k hk => by cases hk; exact hge⟩, ⟨h.ne.1, h.ne.2.1, h.ne.2.2.1, fun e => a5 (by cases e; rfl), fun e => a6 (by cases e; rfl), fun e => hgl (by cases e; rfl)⟩⟩, ?_, fun q hq => ⟨⟨hq.1, hq.2.1, hq.2.2.1, fun e => ?_, Nat.lt_of_lt_of_le hq.2.2.2.2 a7.size⟩, a7.block q hq.2.2.2.2 fun e => ?_⟩⟩
  · rw [wcells_snoc] at a2
    rw [List.length_append]
    exact a2
  · refine a7.below (fun k e => ?_) hB
    rcases e with e | e | e
    · exact e ▸ h.ge.1
    · exact h.ge.2.2.2 _ e
    · exact e ▸ h.ge.2.1
  · cases e
    rcases a4 with e | e
    · exact hq.2.2.2.1 e
    · exact absurd hq.2.2.2.2 (Nat.not_lt.2 e)
  · rcases e with e | e | e
    · exact hq.1 e
    · exact hq.2.2.2.1 e
    · exact hq.2.1 e
theorem dk_barrier2 (le' : Int) (hle : (if ar = true then le - 1 else le) = le') (h : DkAt B w g gn gl L cn cl vw ns ls W st ar le false) (hin : ∀ x ∈ W, x.1 < L) (hm : W.length ≤ 1000000) (h0 : 0 ≤ le) (h1 : le ≤ 9223372036854775807) (h2 : 0 ≤ st) (h3 : st ≤ 1000000000) (hd : ¬ (ar = true ∧ le = 0)) :
    Calls Try.prog 10 #[.pointer (some ⟨g, 0, none⟩)] w fun e w' => e = .returned (.int .i64 0) ∧
      DkAt B w' g gn gl L cn cl (.slice none 0 0) ns (setAll ls W) [] (st + 1) ar le' false ∧ Below B w w' ∧ ∀ q, Side w q g gn gl vw → Side w' q g gn gl (.slice none 0 0) ∧ w'.heap[q]? = w.heap[q]? := by
  subst hle
  obtain ⟨ao, cw, rfl⟩ := vw_shape h.own
  refine (barrier_ok g _ st ar le w _ rfl ao cw W W.length rfl hm gl L cl ls (Lib.hid h.own) (Lib.hid ⟨h.ne.2.2.2.1, h.ne.2.2.2.2.2, h.ne.2.1⟩) (Lib.hid hin) (Lib.hid h.rows) h0 h1 h2 h3 (Lib.hid h.head) hd).mono ?_
  rintro e w' ⟨rfl, a1, a2, a3⟩
  refine ⟨rfl, ⟨a1, own_only h.now a3 fun k hk e => ?_, a2, World.ownsRow_nil _ _ _ _, ⟨h.ge.1, h.ge.2.1, h.ge.2.2.1, fun k hk => by cases hk⟩, ⟨h.ne.1, h.ne.2.1, h.ne.2.2.1, by simp [Value.ownBlock], by simp [Value.ownBlock], by simp [Value.ownBlock]⟩⟩, a3.below (fun k e => ?_) (dk_size h), fun q hq => ⟨⟨hq.1, hq.2.1, hq.2.2.1, by simp [Value.ownBlock], Nat.lt_of_lt_of_le hq.2.2.2.2 a3.size⟩, a3.block q hq.2.2.2.2 fun e => ?_⟩⟩
  · cases hk
    rcases e with e | e
    · exact h.ne.1 e
    · exact h.ne.2.2.1 e
  · rcases e with e | e
    · exact e ▸ h.ge.1
    · exact e ▸ h.ge.2.2.1
  · rcases e with e | e
    · exact hq.1 e
    · exact hq.2.2.1 e
theorem dk_crash2 (h : DkAt B w g gn gl L cn cl vw ns ls W st ar le off) (hls : AllStr ls) (hin : ∀ x ∈ W, x.1 < L) (hm : W.length ≤ 1000000) (sp : Option Addr) (P cp : Nat) (pk : Nat → Int)
    (hpk : ∀ W', Only (· = gl) w W' → ∀ i, i < P → ∃ g' o, sp = some ⟨g', o, none⟩ ∧ W'.cell? ⟨g', o + i, none⟩ = some (.int .i64 (pk i))) :
    Calls Try.prog 11 #[.pointer (some ⟨g, 0, none⟩), .slice sp P cp] w fun e w' => e = .returned (.tuple #[]) ∧
      DkAt B w' g gn gl L cn cl (.slice none 0 0) (nowTo ns (pickTo ls W (fun i => decide (i < P) && od (pk i)) W.length) W W.length) (pickTo ls W (fun i => decide (i < P) && od (pk i)) W.length) [] st false 0 false ∧ Below B w w' ∧ ∀ q, Side w q g gn gl vw → Side w' q g gn gl (.slice none 0 0) ∧ w'.heap[q]? = w.heap[q]? := by
  obtain ⟨ao, cw, rfl⟩ := vw_shape h.own
  refine (crash_any g st ar le off w ao cw W W.length rfl hm gl gn L cl cn ls ns (Lib.hid hls) (Lib.hid h.own) (Lib.hid ⟨h.ne.2.2.2.1, h.ne.2.2.2.2.2, h.ne.2.1, h.ne.2.2.2.2.1, h.ne.1, h.ne.2.2.1⟩) (Lib.hid hin) (Lib.hid h.rows) (Lib.hid h.now) sp P cp pk (Lib.hid hpk) (Lib.hid h.head)).mono ?_
  rintro e w' ⟨rfl, a1, a2, a3, a4⟩
  refine ⟨rfl, ⟨a1, a3, a2, World.ownsRow_nil _ _ _ _, ⟨h.ge.1, h.ge.2.1, h.ge.2.2.1, fun k hk => by cases hk⟩, ⟨h.ne.1, h.ne.2.1, h.ne.2.2.1, by simp [Value.ownBlock], by simp [Value.ownBlock], by simp [Value.ownBlock]⟩⟩, a4.below (fun k e => ?_) (dk_size h), fun q hq => ⟨⟨hq.1, hq.2.1, hq.2.2.1, by simp [Value.ownBlock], Nat.lt_of_lt_of_le hq.2.2.2.2 a4.size⟩, a4.block q hq.2.2.2.2 fun e => ?_⟩⟩
  · rcases e with e | e | e
    · exact e ▸ h.ge.1
    · exact e ▸ h.ge.2.2.1
    · exact e ▸ h.ge.2.1
  · rcases e with e | e | e
    · exact hq.1 e
    · exact hq.2.2.1 e
    · exact hq.2.1 e
end
end Go.Proofs.Ytmojieomdbfjcaa
