/- The scanner of package lex: a byte told behind a backslash. -/
import Derived.Test.YtfpjeokncdlofaaLexE
namespace Go.Proofs.Ytfpjeokncdlofaa
open Go.ChangeShapes Go.WideShapes Go.ChangeAt Go.RowKit
open Go.Proofs.Ytfpjeokncdlofaa.Fn (st st_size st_list st_extract)
set_option linter.unusedVariables false
set_option maxRecDepth 20000

theorem idx1 (c d : UInt8) (t : List UInt8) (W : World) : (Instr.index 9 (.string (st (c :: d :: t))) (.int .i64 1)).run Try.prog W = .ok (.int .u8 ((d.toNat : Nat) : Int)) W := by
  rw [run_index_string W 9 (st (c :: d :: t)) .i64 1 Try.underlying9, dif_pos (by rw [st_size]; simp; omega)]
  rfl
theorem only_alloc {w w1 : World} {g : Nat} {o : Obj} (h : w.alloc o = w1) : Only (· = g) w w1 := by
  rw [← h]; exact Only.of_below ((Below.refl _ _).alloc (Nat.le_refl _) _)
theorem esc_or (a b : Nat) (ha : a < 16) (hb : b < 16) : bits .or .u8 ((a : Int) * 16 % 256) (b : Int) = ((16 * a + b : Nat) : Int) := by
  have h : ∀ a b : Fin 16, bits .or .u8 (((a : Nat) : Int) * 16 % 256) ((b : Nat) : Int) = ((16 * (a : Nat) + (b : Nat) : Nat) : Int) := by decide +kernel
  exact h ⟨a, ha⟩ ⟨b, hb⟩
theorem pos_block {w w1 : World} {a b : Int} (h : w.alloc (.cells #[.int .i64 a, .int .i64 b] 25) = w1) : w1.cell? ⟨w.heap.size, 0, none⟩ = some (.int .i64 a) ∧ w1.cell? ⟨w.heap.size, 1, none⟩ = some (.int .i64 b) := by
  have h9 : w1.heap[w.heap.size]? = some (.cells #[.int .i64 a, .int .i64 b] 25) := by rw [← h]; show (w.heap.push _)[w.heap.size]? = _; simp
  constructor
  · simp only [World.cell?, h9]; rfl
  · simp only [World.cell?, h9]; rfl
set_option maxHeartbeats 4000000 in
theorem escaped_any (g : Nat) (d : UInt8) (u : List UInt8) (p : Nat × Nat) (hf : Fit (d :: u) p) (w : World) (h : Hid (Sc w g (d :: u) p.1 p.2)) :
    Calls Try.prog 40 #[.pointer (some ⟨g, 0, none⟩)] w fun e w' => ((∃ v l q, escS (d :: u) p = some (v, l, q) ∧ e = .returned (.int .u8 (v : Int)) ∧ Hid (Sc w' g l q.1 q.2)) ∨ (escS (d :: u) p = none ∧ e = thrown p.1 p.2 10)) ∧ Hid (Only (· = g) w w') := by
  obtain ⟨c0, c1, c2⟩ := sc_cells h.out
  have HN := Lib.hid (fun W hs => next_any g d u p.1 p.2 hf.lt.1 hf.lt.2 W hs)
  have HSc : Hid (∀ W, Below w.heap.size w W → Sc W g (d :: u) p.1 p.2) := Lib.hid fun W hW => sc_later h.out hW
  have HFt := Lib.hid hf.tail
  have HNt := Lib.hid (fun W => noToken_any (p.1 : Int) (p.2 : Int) W)
  obtain ⟨x, hx⟩ : ∃ x, d.toNat = x := ⟨_, rfl⟩
  rw [hx] at HN
  have HX := Lib.hid (fun _ : True => hx)
  clear h hf c0
  by_cases h34 : x = 34
  · have hd : d = 34 := UInt8.toNat_inj.1 (by rw [hx, h34]; rfl)
    have hE : Hid (escS (d :: u) p = some (34, u, adv d p)) := Lib.hid (by rw [escS, if_pos (.inl hd), hx, h34])
    subst h34
    clear hx hd
    go_enter Try.func40, Try.ntmps40
    go_wp2_with fail
    generalize h1 : World.alloc w _ = w1
    have HO1 := Lib.hid (only_alloc (g := g) h1)
    have HS1 := Lib.hid (HSc.out w1 (by rw [← h1]; exact (Below.refl _ _).alloc (Nat.le_refl _) _))
    clear h1 c1 c2
    refine (HN.out w1 HS1).mono ?_
    rintro e w2 ⟨rfl, hs2, ho2⟩
    have HO2 := Lib.hid (HO1.out.trans ho2.out)
    go_wp2_with fail
    go_ret
    exact ⟨.inl ⟨34, u, adv d p, hE.out, rfl, hs2⟩, HO2⟩
  · by_cases h92 : x = 92
    · have hd : d = 92 := UInt8.toNat_inj.1 (by rw [hx, h92]; rfl)
      have hE : Hid (escS (d :: u) p = some (92, u, adv d p)) := Lib.hid (by rw [escS, if_pos (.inr hd), hx, h92])
      subst h92
      clear hx hd
      go_enter Try.func40, Try.ntmps40
      go_wp2_with fail
      generalize h1 : World.alloc w _ = w1
      have HO1 := Lib.hid (only_alloc (g := g) h1)
      have HS1 := Lib.hid (HSc.out w1 (by rw [← h1]; exact (Below.refl _ _).alloc (Nat.le_refl _) _))
      clear h1 c1 c2
      refine (HN.out w1 HS1).mono ?_
      rintro e w2 ⟨rfl, hs2, ho2⟩
      have HO2 := Lib.hid (HO1.out.trans ho2.out)
      go_wp2_with fail
      go_ret
      exact ⟨.inl ⟨92, u, adv d p, hE.out, rfl, hs2⟩, HO2⟩
    · have hq : ¬ (d = 34 ∨ d = 92) := by
        rintro (e | e)
        · exact h34 (by rw [← hx, e]; rfl)
        · exact h92 (by rw [← hx, e]; rfl)
      by_cases h110 : x = 110
      · have hd : d = 110 := UInt8.toNat_inj.1 (by rw [hx, h110]; rfl)
        have hE : Hid (escS (d :: u) p = some (10, u, adv d p)) := Lib.hid (by rw [escS, if_neg hq, if_pos hd])
        subst h110
        clear hx hd hq
        go_enter Try.func40, Try.ntmps40
        go_wp2_with fail
        generalize h1 : World.alloc w _ = w1
        have HO1 := Lib.hid (only_alloc (g := g) h1)
        have HS1 := Lib.hid (HSc.out w1 (by rw [← h1]; exact (Below.refl _ _).alloc (Nat.le_refl _) _))
        clear h1 c1 c2
        refine (HN.out w1 HS1).mono ?_
        rintro e w2 ⟨rfl, hs2, ho2⟩
        have HO2 := Lib.hid (HO1.out.trans ho2.out)
        go_wp2_with fail
        go_ret
        exact ⟨.inl ⟨10, u, adv d p, hE.out, rfl, hs2⟩, HO2⟩
      · have hq2 : ¬ d = 110 := fun e => h110 (by rw [← hx, e]; rfl)
        have k34 : ((x : Int) == 34) = false := by simp; omega
        have k92 : ((x : Int) == 92) = false := by simp; omega
        have k110 : ((x : Int) == 110) = false := by simp; omega
        by_cases h120 : x = 120
        · have hd : d = 120 := UInt8.toNat_inj.1 (by rw [hx, h120]; rfl)
          have hE0 : escS (d :: u) p = hexS u (adv d p) := by rw [escS, if_neg hq, if_neg hq2, if_pos hd]
          have HE0 := Lib.hid (fun _ : True => hE0)
          subst h120
          clear hx hd hq hq2 hE0 h34 h92 h110 k34 k92 k110
          obtain ⟨su, hsu⟩ : ∃ s, st u = s := ⟨_, rfl⟩
          have hsz : su.size = u.length := by rw [← hsu, st_size]
          by_cases hlen : u.length < 2
          · have hE : Hid (escS (d :: u) p = none) := Lib.hid (by
              rw [HE0.out trivial]
              match u, hlen with
              | [], _ => rfl
              | [a], _ => rfl)
            have hgeq : ¬ ((2 : Int) ≤ (su.size : Int)) := by omega
            have hged : decide ((2 : Int) ≤ (su.size : Int)) = false := decide_eq_false hgeq
            go_enter Try.func40, Try.ntmps40
            go_wp2_with fail
            generalize h1 : World.alloc w _ = w1
            have HO1 := Lib.hid (only_alloc (g := g) h1)
            have HS1 := Lib.hid (HSc.out w1 (by rw [← h1]; exact (Below.refl _ _).alloc (Nat.le_refl _) _))
            have HP1 : Hid (w.heap.size ≠ g ∧ w.heap.size < w1.heap.size ∧ w1.cell? ⟨w.heap.size, 0, none⟩ = some (.int .i64 (p.1 : Int)) ∧ w1.cell? ⟨w.heap.size, 1, none⟩ = some (.int .i64 (p.2 : Int))) := Lib.hid (by
              have hg := sc_lt (HSc.out w (Below.refl _ _))
              refine ⟨by omega, by rw [← h1]; simp, ?_, ?_⟩
              · exact (pos_block h1).1
              · exact (pos_block h1).2)
            clear h1 c1 c2
            refine (HN.out w1 HS1).mono ?_
            rintro e w2 ⟨rfl, hs2, ho2⟩
            have HO2 := Lib.hid (HO1.out.trans ho2.out)
            have hb2 := ho2.out.block w.heap.size HP1.out.2.1 HP1.out.1
            have p0 : w2.cell? ⟨w.heap.size, 0, none⟩ = some (.int .i64 (p.1 : Int)) := (World.cell?_of_block (w := w1) hb2).trans HP1.out.2.2.1
            have p1 : w2.cell? ⟨w.heap.size, 1, none⟩ = some (.int .i64 (p.2 : Int)) := (World.cell?_of_block (w := w1) hb2).trans HP1.out.2.2.2
            clear hb2
            obtain ⟨s0, _, _⟩ := sc_cells hs2.out
            rw [hsu] at s0
            clear hsu hsz hlen HE0
            go_wp2_with fail
            refine (HNt.out w2).mono ?_
            rintro e w9 ⟨rfl, hb9⟩
            have HO9 := Lib.hid (HO2.out.trans (Only.of_below hb9.out))
            go_wp2_with fail
            exact ⟨rfl, .inr ⟨hE.out, rfl⟩, HO9⟩
          · obtain ⟨a, b, v, rfl⟩ : ∃ a b v, u = a :: b :: v := by
              match u, hlen with
              | [], h => exact absurd (by decide) h
              | [a], h => exact absurd (by simp) h
              | a :: b :: v, _ => exact ⟨a, b, v, rfl⟩
            · skip
              have hgeq : (2 : Int) ≤ (su.size : Int) := by rw [hsz, List.length_cons, List.length_cons]; omega
              have hix0 := idx0 a (b :: v)
              have hix1 := idx1 a b v
              rw [hsu] at hix0 hix1
              have HHa := Lib.hid (fun W => isHex_any a.toNat W)
              have HHb := Lib.hid (fun W => isHex_any b.toNat W)
              have HNa := Lib.hid (fun W hs => next_any g a (b :: v) (adv d p).1 (adv d p).2 HFt.out.lt.1 HFt.out.lt.2 W hs)
              have HNb := Lib.hid (fun W hs => next_any g b v (adv a (adv d p)).1 (adv a (adv d p)).2 HFt.out.tail.lt.1 HFt.out.tail.lt.2 W hs)
              have HVa := Lib.hid (fun h W => hexValue_any a.toNat h W)
              have HVb := Lib.hid (fun h W => hexValue_any b.toNat h W)
              have HHx := Lib.hid (fun (h1 : hexN a.toNat = true) (h2 : hexN b.toNat = true) => esc_or (hexV a.toNat) (hexV b.toNat) (hex_lt h1) (hex_lt h2))
              have HE1 : Hid (escS (d :: a :: b :: v) p = if hexN a.toNat = true ∧ hexN b.toNat = true then some (16 * hexV a.toNat + hexV b.toNat, v, adv b (adv a (adv d p))) else none) := Lib.hid (by rw [HE0.out trivial, hexS])
              obtain ⟨xa, hxa⟩ : ∃ x, a.toNat = x := ⟨_, rfl⟩
              obtain ⟨xb, hxb⟩ : ∃ x, b.toNat = x := ⟨_, rfl⟩
              rw [hxa] at hix0 HHa HNa HVa HHx HE1
              rw [hxb] at hix1 HHb HNb HVb HHx HE1
              clear hxa hxb HE0 hsz hlen
              cases ha : hexN xa with
              | false =>
                have hE : Hid (escS (d :: a :: b :: v) p = none) := Lib.hid (by rw [HE1.out, if_neg (by rw [ha]; rintro ⟨h, _⟩; cases h)])
                rw [ha] at HHa
                clear ha
                go_enter Try.func40, Try.ntmps40
                go_wp2_with fail
                generalize h1 : World.alloc w _ = w1
                have HO1 := Lib.hid (only_alloc (g := g) h1)
                have HS1 := Lib.hid (HSc.out w1 (by rw [← h1]; exact (Below.refl _ _).alloc (Nat.le_refl _) _))
                have HP1 : Hid (w.heap.size ≠ g ∧ w.heap.size < w1.heap.size ∧ w1.cell? ⟨w.heap.size, 0, none⟩ = some (.int .i64 (p.1 : Int)) ∧ w1.cell? ⟨w.heap.size, 1, none⟩ = some (.int .i64 (p.2 : Int))) := Lib.hid (by
                  have hg := sc_lt (HSc.out w (Below.refl _ _))
                  refine ⟨by omega, by rw [← h1]; simp, ?_, ?_⟩
                  · exact (pos_block h1).1
                  · exact (pos_block h1).2)
                clear h1 c1 c2
                refine (HN.out w1 HS1).mono ?_
                rintro e w2 ⟨rfl, hs2, ho2⟩
                have HO2 := Lib.hid (HO1.out.trans ho2.out)
                have hb2 := ho2.out.block w.heap.size HP1.out.2.1 HP1.out.1
                have p0 : w2.cell? ⟨w.heap.size, 0, none⟩ = some (.int .i64 (p.1 : Int)) := (World.cell?_of_block (w := w1) hb2).trans HP1.out.2.2.1
                have p1 : w2.cell? ⟨w.heap.size, 1, none⟩ = some (.int .i64 (p.2 : Int)) := (World.cell?_of_block (w := w1) hb2).trans HP1.out.2.2.2
                clear hb2
                obtain ⟨s0, _, _⟩ := sc_cells hs2.out
                rw [hsu] at s0
                clear hsu
                go_wp2_with fail
                refine (HHa.out w2).mono ?_
                rintro e w8 ⟨rfl, rfl⟩
                go_wp2_with fail
                refine (HNt.out w2).mono ?_
                rintro e w9 ⟨rfl, hb9⟩
                have HO9 := Lib.hid (HO2.out.trans (Only.of_below hb9.out))
                go_wp2_with fail
                exact ⟨rfl, .inr ⟨hE.out, rfl⟩, HO9⟩
              | true =>
                cases hb : hexN xb with
                | false =>
                  have hE : Hid (escS (d :: a :: b :: v) p = none) := Lib.hid (by rw [HE1.out, if_neg (by rw [hb]; rintro ⟨_, h⟩; cases h)])
                  rw [ha] at HHa
                  rw [hb] at HHb
                  clear ha hb
                  go_enter Try.func40, Try.ntmps40
                  go_wp2_with fail
                  generalize h1 : World.alloc w _ = w1
                  have HO1 := Lib.hid (only_alloc (g := g) h1)
                  have HS1 := Lib.hid (HSc.out w1 (by rw [← h1]; exact (Below.refl _ _).alloc (Nat.le_refl _) _))
                  have HP1 : Hid (w.heap.size ≠ g ∧ w.heap.size < w1.heap.size ∧ w1.cell? ⟨w.heap.size, 0, none⟩ = some (.int .i64 (p.1 : Int)) ∧ w1.cell? ⟨w.heap.size, 1, none⟩ = some (.int .i64 (p.2 : Int))) := Lib.hid (by
                    have hg := sc_lt (HSc.out w (Below.refl _ _))
                    refine ⟨by omega, by rw [← h1]; simp, ?_, ?_⟩
                    · exact (pos_block h1).1
                    · exact (pos_block h1).2)
                  clear h1 c1 c2
                  refine (HN.out w1 HS1).mono ?_
                  rintro e w2 ⟨rfl, hs2, ho2⟩
                  have HO2 := Lib.hid (HO1.out.trans ho2.out)
                  have hb2 := ho2.out.block w.heap.size HP1.out.2.1 HP1.out.1
                  have p0 : w2.cell? ⟨w.heap.size, 0, none⟩ = some (.int .i64 (p.1 : Int)) := (World.cell?_of_block (w := w1) hb2).trans HP1.out.2.2.1
                  have p1 : w2.cell? ⟨w.heap.size, 1, none⟩ = some (.int .i64 (p.2 : Int)) := (World.cell?_of_block (w := w1) hb2).trans HP1.out.2.2.2
                  clear hb2
                  obtain ⟨s0, _, _⟩ := sc_cells hs2.out
                  rw [hsu] at s0
                  clear hsu
                  go_wp2_with fail
                  refine (HHa.out w2).mono ?_
                  rintro e w8 ⟨rfl, rfl⟩
                  go_wp2_with fail
                  refine (HHb.out w2).mono ?_
                  rintro e w8 ⟨rfl, rfl⟩
                  go_wp2_with fail
                  refine (HNt.out w2).mono ?_
                  rintro e w9 ⟨rfl, hb9⟩
                  have HO9 := Lib.hid (HO2.out.trans (Only.of_below hb9.out))
                  go_wp2_with fail
                  exact ⟨rfl, .inr ⟨hE.out, rfl⟩, HO9⟩
                | true =>
                  have hE : Hid (escS (d :: a :: b :: v) p = some (16 * hexV xa + hexV xb, v, adv b (adv a (adv d p)))) := Lib.hid (by rw [HE1.out, if_pos ⟨ha, hb⟩])
                  have hor := HHx.out ha hb
                  have HVa1 := Lib.hid (HVa.out ha)
                  have HVb1 := Lib.hid (HVb.out hb)
                  rw [ha] at HHa
                  rw [hb] at HHb
                  obtain ⟨va, hva⟩ : ∃ x, hexV xa = x := ⟨_, rfl⟩
                  obtain ⟨vb, hvb⟩ : ∃ x, hexV xb = x := ⟨_, rfl⟩
                  rw [hva] at HVa1 hor hE
                  rw [hvb] at HVb1 hor hE
                  obtain ⟨vr, hvr⟩ : ∃ x, 16 * va + vb = x := ⟨_, rfl⟩
                  rw [hvr] at hor hE
                  clear ha hb HVa HVb HHx hva hvb hvr
                  go_enter Try.func40, Try.ntmps40
                  go_wp2_with fail
                  generalize h1 : World.alloc w _ = w1
                  have HO1 := Lib.hid (only_alloc (g := g) h1)
                  have HS1 := Lib.hid (HSc.out w1 (by rw [← h1]; exact (Below.refl _ _).alloc (Nat.le_refl _) _))
                  have HP1 : Hid (w.heap.size ≠ g ∧ w.heap.size < w1.heap.size ∧ w1.cell? ⟨w.heap.size, 0, none⟩ = some (.int .i64 (p.1 : Int)) ∧ w1.cell? ⟨w.heap.size, 1, none⟩ = some (.int .i64 (p.2 : Int))) := Lib.hid (by
                    have hg := sc_lt (HSc.out w (Below.refl _ _))
                    refine ⟨by omega, by rw [← h1]; simp, ?_, ?_⟩
                    · exact (pos_block h1).1
                    · exact (pos_block h1).2)
                  clear h1 c1 c2
                  refine (HN.out w1 HS1).mono ?_
                  rintro e w2 ⟨rfl, hs2, ho2⟩
                  have HO2 := Lib.hid (HO1.out.trans ho2.out)
                  have hb2 := ho2.out.block w.heap.size HP1.out.2.1 HP1.out.1
                  have p0 : w2.cell? ⟨w.heap.size, 0, none⟩ = some (.int .i64 (p.1 : Int)) := (World.cell?_of_block (w := w1) hb2).trans HP1.out.2.2.1
                  have p1 : w2.cell? ⟨w.heap.size, 1, none⟩ = some (.int .i64 (p.2 : Int)) := (World.cell?_of_block (w := w1) hb2).trans HP1.out.2.2.2
                  clear hb2
                  obtain ⟨s0, _, _⟩ := sc_cells hs2.out
                  rw [hsu] at s0
                  clear hsu
                  go_wp2_with fail
                  refine (HHa.out w2).mono ?_
                  rintro e w8 ⟨rfl, rfl⟩
                  go_wp2_with fail
                  refine (HHb.out w2).mono ?_
                  rintro e w8 ⟨rfl, rfl⟩
                  go_wp2_with fail
                  refine (HNa.out w2 hs2).mono ?_
                  rintro e w3 ⟨rfl, hs3, ho3⟩
                  clear s0 p0 p1
                  go_wp2_with fail
                  refine (HVa1.out w3).mono ?_
                  rintro e w8 ⟨rfl, rfl⟩
                  go_wp2_with fail
                  refine (HNb.out w3 hs3).mono ?_
                  rintro e w4 ⟨rfl, hs4, ho4⟩
                  have HO4 := Lib.hid ((HO2.out.trans ho3.out).trans ho4.out)
                  go_wp2_with fail
                  refine (HVb1.out w4).mono ?_
                  rintro e w8 ⟨rfl, rfl⟩
                  go_wp2_with fail
                  go_ret
                  exact ⟨.inl ⟨vr, v, adv b (adv a (adv d p)), hE.out, rfl, hs4⟩, HO4⟩
        · have k120 : ((x : Int) == 120) = false := by simp; omega
          have hE : Hid (escS (d :: u) p = none) := Lib.hid (by rw [escS, if_neg hq, if_neg hq2, if_neg fun e => h120 (by rw [← hx, e]; rfl)])
          clear hx hq hq2
          go_enter Try.func40, Try.ntmps40
          go_wp2_with fail
          generalize h1 : World.alloc w _ = w1
          have HO1 := Lib.hid (only_alloc (g := g) h1)
          have HS1 := Lib.hid (HSc.out w1 (by rw [← h1]; exact (Below.refl _ _).alloc (Nat.le_refl _) _))
          have HP1 : Hid (w.heap.size ≠ g ∧ w.heap.size < w1.heap.size ∧ w1.cell? ⟨w.heap.size, 0, none⟩ = some (.int .i64 (p.1 : Int)) ∧ w1.cell? ⟨w.heap.size, 1, none⟩ = some (.int .i64 (p.2 : Int))) := Lib.hid (by
            have hg := sc_lt (HSc.out w (Below.refl _ _))
            refine ⟨by omega, by rw [← h1]; simp, ?_, ?_⟩
            · exact (pos_block h1).1
            · exact (pos_block h1).2)
          clear h1 c1 c2
          refine (HN.out w1 HS1).mono ?_
          rintro e w2 ⟨rfl, hs2, ho2⟩
          have HO2 := Lib.hid (HO1.out.trans ho2.out)
          have hb2 := ho2.out.block w.heap.size HP1.out.2.1 HP1.out.1
          have p0 : w2.cell? ⟨w.heap.size, 0, none⟩ = some (.int .i64 (p.1 : Int)) := (World.cell?_of_block (w := w1) hb2).trans HP1.out.2.2.1
          have p1 : w2.cell? ⟨w.heap.size, 1, none⟩ = some (.int .i64 (p.2 : Int)) := (World.cell?_of_block (w := w1) hb2).trans HP1.out.2.2.2
          clear hb2
          go_wp2_with fail
          refine (HNt.out w2).mono ?_
          rintro e w9 ⟨rfl, hb9⟩
          have HO9 := Lib.hid (HO2.out.trans (Only.of_below hb9.out))
          go_wp2_with fail
          exact ⟨rfl, .inr ⟨hE.out, rfl⟩, HO9⟩
end Go.Proofs.Ytfpjeokncdlofaa
