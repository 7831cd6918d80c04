/- What is read is what is written; the walk of the law WireOnce. No condition. -/
import Derived.Test.YtflgodphphbbjaaOpen
import Derived.Test.YtflgodphphbbjaaWrites
namespace Go.Proofs.Ytflgodphphbbjaa
open Go.ChangeShapes Go.WideShapes Go.ChangeAt Go.RowKit Go.Lib

/-- a number that is read is of these bytes, and no others -/
theorem rd_ok : ∀ (L : List Nat) (k u : Nat), (∀ b ∈ L, b < 256) → (rd k u L).2.2 = 0 → ∃ y, (rd k u L).1 = uz (u + y * 2 ^ (7 * k)) ∧ k < (rd k u L).2.1 ∧ L.take ((rd k u L).2.1 - k) = vb y ∧ (0 < k → 0 < y)
  | [], _, _, _ => fun h => by unfold rd at h; exact absurd h (by decide)
  | c :: t, k, u, hB => by
    have ih := rd_ok t (k + 1) (u + c % 128 * 2 ^ (7 * k)) (fun b hb => hB b (List.mem_cons_of_mem _ hb))
    have hc := hB c (List.mem_cons_self ..)
    unfold rd
    split
    · intro h; exact absurd h (by decide)
    · split
      · intro h
        obtain ⟨y, h1, h2, h3, h4⟩ := ih h
        have hy := h4 (by omega)
        refine ⟨c % 128 + 128 * y, ?_, by omega, ?_, fun _ => by omega⟩
        · rw [h1]
          congr 1
          rw [show 7 * (k + 1) = 7 * k + 7 by omega, Nat.pow_add, Nat.add_mul]
          generalize 2 ^ (7 * k) = z
          rw [Nat.add_assoc, show (2 : Nat) ^ 7 = 128 from rfl, show y * (z * 128) = 128 * y * z by rw [Nat.mul_comm z, ← Nat.mul_assoc, Nat.mul_comm y]]
        · rw [vb_hi (by omega), show (c % 128 + 128 * y) % 128 + 128 = c by omega, show (c % 128 + 128 * y) / 128 = y by omega, ← h3]
          generalize (rd (k + 1) (u + c % 128 * 2 ^ (7 * k)) t).2.1 = s at *
          rw [show s - k = (s - (k + 1)) + 1 by omega, List.take_succ_cons]
      · split
        · intro h; exact absurd h (by decide)
        · rename_i h1 h2 h3
          intro _
          refine ⟨c, ?_, Nat.lt_succ_self _, ?_, fun hk => by omega⟩
          · show uz _ = _; rw [Nat.mod_eq_of_lt (by omega)]
          · show (c :: t).take (k + 1 - k) = _
            rw [show k + 1 - k = 0 + 1 by omega, List.take_succ_cons, List.take_zero, vb_lo (by omega)]
theorem rd_val : ∀ (L : List Nat) (k u : Nat), (∀ b ∈ L, b < 256) → k ≤ 9 → u < 2 ^ (7 * k) → (rd k u L).2.2 = 0 → ∃ x, x < 18446744073709551616 ∧ (rd k u L).1 = uz x
  | [], _, _, _, _, _ => fun h => by unfold rd at h; exact absurd h (by decide)
  | c :: t, k, u, hB, hk, hu => by
    have ih := fun h => rd_val t (k + 1) (u + c % 128 * 2 ^ (7 * k)) (fun b hb => hB b (List.mem_cons_of_mem _ hb)) h (step_lt2 u k c hu)
    have hc := hB c (List.mem_cons_self ..)
    unfold rd
    split
    · intro h; exact absurd h (by decide)
    · rename_i h1
      split
      · exact ih (by omega)
      · split
        · intro h; exact absurd h (by decide)
        · intro _; exact ⟨_, step_lt u k c hk hu (by omega), rfl⟩
theorem uz_int (x : Nat) (h : x < 18446744073709551616) : -9223372036854775808 ≤ uz x ∧ uz x ≤ 9223372036854775807 := ⟨uz_lo x h, uz_hi x h⟩
theorem rd_int (L : List Nat) (hB : ∀ b ∈ L, b < 256) : -9223372036854775808 ≤ (rd 0 0 L).1 ∧ (rd 0 0 L).1 ≤ 9223372036854775807 := by
  by_cases h : (rd 0 0 L).2.2 = 0
  · obtain ⟨x, hx, e⟩ := rd_val L 0 0 hB (by decide) (by decide) h
    rw [e]; exact uz_int x hx
  · rw [(rd_err L 0 0 h).1]; decide
theorem rdB_wide (L : List Nat) (hB : ∀ b ∈ L, b < 256) : rdB (-9223372036854775808) 9223372036854775807 L = rd 0 0 L := by
  unfold rdB
  have := rd_int L hB
  exact if_neg fun h => by omega

theorem once_src {a0 : Option Addr} {len0 cap0 : Nat} {z0 : List Int} {w : World}
    (w0 : (a0 = none ∧ len0 = 0 ∧ cap0 = 0 ∧ z0 = []) ∨ ∃ x, a0 = some x ∧ len0 ≤ cap0 ∧ cap0 ≤ maxLen ∧ z0.length = cap0 ∧ (∀ i, i < z0.length → w.cell? (x.add i) = some (.int .u8 (z0.getD i 0))) ∧ ∀ n ∈ z0, (Lit.int .u8 n).wf = true)
    (m : Nat) (hm : m ≤ len0) : ∃ L : List Nat, L.length = m ∧ (∀ b ∈ L, b < 256) ∧ Src w a0 L := by
  rcases w0 with ⟨rfl, rfl, rfl, rfl⟩ | ⟨x, rfl, h1, h2, h3, h4, h5⟩
  · exact ⟨[], by simp; omega, by simp, fun h => absurd h (by simp)⟩
  · have hb : ∀ z ∈ z0, 0 ≤ z ∧ z ≤ 255 := fun z hz => bounds_u8 (h5 z hz)
    refine ⟨(z0.take m).map Int.toNat, by simp; omega, ?_, fun _ => ⟨x, rfl, fun i hi => ?_⟩⟩
    · intro b hb'
      obtain ⟨z, hz, rfl⟩ := List.mem_map.1 hb'
      have := hb z (List.mem_of_mem_take hz)
      omega
    · have hi2 : i < m := by simp at hi; omega
      have hi3 : i < z0.length := by omega
      rw [h4 i hi3]
      have hz := hb z0[i] (List.getElem_mem hi3)
      have e1 : z0.getD i 0 = z0[i] := by simp [List.getD, hi3]
      have e2 : ((z0.take m).map Int.toNat).getD i 0 = z0[i].toNat := by simp [List.getD, hi3, hi2]
      rw [e1, e2]
      congr 2; omega
theorem src_at {w : World} {a0 : Option Addr} {L : List Nat} (h : Src w a0 L) (hp : 0 < L.length) : ∃ g o, a0 = some ⟨g, o, none⟩ ∧ At w g o L := by
  obtain ⟨⟨g, o, s⟩, rfl, hc⟩ := h hp
  have h0 := hc 0 hp
  have hs : s = none := by
    cases s with
    | none => rfl
    | some s =>
      simp [World.cell?, Addr.add] at h0
      split at h0 <;> cases h0
  subst hs
  refine ⟨g, o, rfl, fun i hi => ?_⟩
  have := hc i hi
  have e : (⟨g, o, none⟩ : Addr).add i = ⟨g, o + i, none⟩ := by unfold Addr.add; split <;> simp_all
  rwa [e] at this
theorem at_later {w W : World} {g o : Nat} {L : List Nat} (h : At w g o L) (hb : Below w.heap.size w W) : At W g o L := fun i hi => by
  have := h i hi
  rw [hb.cell (World.block_lt_of_cell? w _ this)]; exact this
theorem box_later {w W : World} {g : Nat} {L : List Nat} {e : Int} (h : Box w g L e) (hb : Below w.heap.size w W) : Box W g L e := by
  obtain ⟨hh, o, cap, hg, h1, h2, h3⟩ := h
  refine ⟨hh, o, cap, ?_, h1, h2, at_later h3 hb⟩
  rw [hb.block g ?_]
  · exact hg
  · rcases Nat.lt_or_ge g w.heap.size with hlt | hge
    · exact hlt
    · rw [Array.getElem?_eq_none hge] at hg; cases hg
theorem at_reads {w : World} {g o cap : Nat} {L : List Nat} (h : At w g o L) (n : Nat) (hn : n ≤ L.length) : Reads (.slice (some ⟨g, o, none⟩) n cap) (sv (L.take n)) w := fun W hb =>
  run_convert_bytes_arg (P := Try.prog) W 23 5 Try.underlying23 Try.underlying5 g o n cap ((L.take n).map fun (b : Nat) => (b : Int)) (by simp; omega)
    (fun i hi => by
      rw [at_later h hb i (by omega)]
      congr 2
      simp [List.getD, show i < L.length by omega, hi]) 9 Try.underlying9
end Go.Proofs.Ytflgodphphbbjaa
