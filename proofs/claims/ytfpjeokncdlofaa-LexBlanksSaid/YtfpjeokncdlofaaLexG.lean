/- The scanner of package lex: what a string says. -/
import Derived.Test.YtfpjeokncdlofaaLexF
import Derived.Lib.AppendZeros
namespace Go.Proofs.Ytfpjeokncdlofaa
open Go.ChangeShapes Go.WideShapes Go.ChangeAt Go.RowKit
open Go.Proofs.Ytfpjeokncdlofaa.Fn (st st_size st_list st_extract)
set_option linter.unusedVariables false
set_option maxRecDepth 20000

/-- what a string says, from behind its quote; or the place of what is wrong -/
def strS (first : Nat × Nat) : Nat → List UInt8 → Nat × Nat → List UInt8 → Except (Nat × Nat) (List UInt8 × List UInt8 × (Nat × Nat))
  | 0, _, _, _ => .error first
  | _ + 1, [], _, _ => .error first
  | n + 1, c :: t, p, acc =>
    if c = 34 then (if 4096 < acc.length then .error first else .ok (acc, t, adv c p))
    else if c = 92 ∧ t ≠ [] then match escS t (adv c p) with
      | some (v, l, q) => strS first n l q (acc ++ [UInt8.ofNat v])
      | none => .error (adv c p)
    else if c.toNat < 32 then .error p
    else strS first n t (adv c p) (acc ++ [c])
theorem hexS_fit {u : List UInt8} {p : Nat × Nat} {v : Nat} {l : List UInt8} {q : Nat × Nat} (h : hexS u p = some (v, l, q)) (hf : Fit u p) : Fit l q ∧ l.length < u.length ∧ v < 256 := by
  match u, h, hf with
  | a :: b :: t, h, hf =>
    rw [hexS] at h
    split at h
    · rename_i hh
      have h1 := hex_lt hh.1
      have h2 := hex_lt hh.2
      cases h
      exact ⟨hf.tail.tail, by simp; omega, by omega⟩
    · cases h
theorem escS_fit {u : List UInt8} {p : Nat × Nat} {v : Nat} {l : List UInt8} {q : Nat × Nat} (h : escS u p = some (v, l, q)) (hf : Fit u p) : Fit l q ∧ l.length < u.length ∧ v < 256 := by
  match u, h, hf with
  | d :: t, h, hf =>
    rw [escS] at h
    split at h
    · cases h
      exact ⟨hf.tail, by simp, d.toNat_lt⟩
    · split at h
      · cases h
        exact ⟨hf.tail, by simp, by decide⟩
      · split at h
        · obtain ⟨h1, h2, h3⟩ := hexS_fit h hf.tail
          exact ⟨h1, by rw [List.length_cons]; omega, h3⟩
        · cases h
/-- bytes, as cells -/
def cellsU (L : List UInt8) : List Value := L.map fun b => .int .u8 ((b.toNat : Nat) : Int)
theorem info8 : (Try.prog.info? 5).map (fun i => (i.zero, i.size, i.bytes)) = some (some (.int .u8 0), 1, 1) := by kernel_rfl
theorem only_below {S : Nat → Prop} {w0 w w' : World} (h : Only S w0 w) (hb : Below w0.heap.size w w') : Only S w0 w' :=
  ⟨hb.os.trans h.os, hb.tape.trans h.tape, hb.output.trans h.output, Nat.le_trans h.size hb.size, fun k hk hs => (hb.block k hk).trans (h.block k hk hs)⟩
theorem own_keepS {S : Nat → Prop} {w w' : World} {B : Nat} {e : TypeId} {z : Nat} {v : Value} {n : Nat} {xs : List Value} (h : w.ownsRow B e z v n xs) (ho : Only S w w') (hs : ∀ q, B ≤ q → ¬ S q) : w'.ownsRow B e z v n xs := by
  refine ⟨h.1, ?_⟩
  rcases h.2 with h0 | ⟨g, cap, cur, hv, hb, hg, rest⟩
  · exact .inl h0
  · exact .inr ⟨g, cap, cur, hv, hb, (ho.block g (Array.getElem?_eq_some_iff.1 hg).1 (hs g hb)).trans hg, rest⟩
theorem app_byte {B : Nat} {w : World} {v : Value} {L : List UInt8} (hown : w.ownsRow B 5 1 v L.length (cellsU L)) (hB : B ≤ w.heap.size) (b : UInt8) (x : Nat) (hx : b.toNat = x) (hn : L.length ≤ 1000000) (ty : TypeId) :
    ∃ v' w', (Builtin.append_ #[46, 46] ty #[v, .slice (some ⟨w.heap.size, 0, none⟩) 1 1]).run Try.prog (w.alloc (.cells #[.int .u8 (x : Int)] 5)) = .ok v' w' ∧ w'.ownsRow B 5 1 v' (L ++ [b]).length (cellsU (L ++ [b])) ∧ Below B w w' := by
  obtain ⟨i0, hi, hz0, hz1, hz2⟩ := info_parts info8
  have hal : Below w.heap.size w (w.alloc (.cells #[.int .u8 (x : Int)] 5)) := (Below.refl _ _).alloc (Nat.le_refl _) _
  have hown2 : (w.alloc (.cells #[.int .u8 (x : Int)] 5)).ownsRow B 5 1 v L.length (cellsU L) := own_keepS (S := fun _ => False) hown (Only.of_below hal) (fun _ _ h => h)
  obtain ⟨v', w', hr, a1, a2, _⟩ := run_append_own (P := Try.prog) _ B 46 ty 5 i0 (.int .u8 0) 1 1 Try.underlying46 hi hz0 hz1 hz2 rfl (by decide) v L.length _ hown2 ⟨w.heap.size, 0, none⟩ 1 1 [.int .u8 (x : Int)] rfl (fun j u hj => by
    have hlt : j < 1 := (List.getElem?_eq_some_iff.1 hj).1
    obtain rfl : j = 0 := by omega
    cases hj
    have h9 : (w.alloc (.cells #[.int .u8 (x : Int)] 5)).heap[w.heap.size]? = some (.cells #[.int .u8 (x : Int)] 5) := by show (w.heap.push _)[w.heap.size]? = _; simp
    rw [Addr.add_zero']
    simp only [World.cell?, h9]
    rfl) (fun u hu => by rw [List.mem_singleton.1 hu]; rfl) (by unfold maxLen; omega) (by omega) (Nat.le_trans hB hal.size)
  refine ⟨v', w', hr, ?_, (hal.mono hB).trans ((Below.refl B _).grown a2 (Nat.le_trans hB hal.size) fun k hk => ?_)⟩
  · have e : cellsU (L ++ [b]) = cellsU L ++ [.int .u8 (x : Int)] := by simp [cellsU, hx]
    rw [e, List.length_append]
    exact a1
  · rcases hown.2 with ⟨h0, _⟩ | ⟨g', cap, cur, hv, hg, _⟩
    · rw [h0] at hk; cases hk
    · rw [hv] at hk; cases hk; exact hg
theorem own_sl {w : World} {B e z n : Nat} {v : Value} {xs : List Value} (h : w.ownsRow B e z v n xs) : ∃ a c, v = .slice a n c := by
  rcases h.2 with ⟨h0, h1⟩ | ⟨g', cap, cur, hv, _⟩
  · exact ⟨none, 0, by rw [h0, h1]⟩
  · exact ⟨_, _, hv⟩
theorem st_nums (L : List UInt8) : strOfNums (L.map fun b => ((b.toNat : Nat) : Int)) = st L := by
  apply ByteArray.ext
  apply Array.toList_inj.1
  have e : ((fun n : Int => UInt8.ofNat n.toNat) ∘ (fun b : UInt8 => ((b.toNat : Nat) : Int))) = id := by funext b; simp
  simp [strOfNums, st, e]
theorem own_conv {w : World} {B : Nat} {v : Value} {L : List UInt8} (h : w.ownsRow B 5 1 v L.length (cellsU L)) : (convert 46 9 v).run Try.prog w = .ok (.string (st L)) w := by
  rcases h.2 with ⟨hv, h0⟩ | ⟨g, cap, cur, hv, hb, hg, h1, h2, h3, h4⟩
  · subst hv
    have h5 : L = [] := List.eq_nil_of_length_eq_zero h0
    subst h5
    go_simp
    rfl
  · have h7 := run_convert_bytes_arg (P := Try.prog) w 46 5 Try.underlying46 Try.underlying5 g 0 L.length cap (L.map fun b => ((b.toNat : Nat) : Int)) (by simp) (fun i hi => by
      have h6 := World.ownsRow.cellAt (hv ▸ h) i (by omega)
      rw [Nat.zero_add, h6]
      simp [cellsU, List.getD, hi]) 9 Try.underlying9
    rw [st_nums] at h7
    rw [hv]
    exact h7
end Go.Proofs.Ytfpjeokncdlofaa
