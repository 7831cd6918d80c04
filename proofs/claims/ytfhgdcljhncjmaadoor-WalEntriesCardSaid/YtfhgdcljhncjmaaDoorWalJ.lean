/- readParts, of a record that stands there. -/
import Derived.Test.YtfhgdcljhncjmaaDoorWalI
namespace Go.Proofs.YtfhgdcljhncjmaaDoor
open Go.ChangeShapes Go.WideShapes Go.ChangeAt Go.RowKit
set_option linter.unusedVariables false
set_option maxRecDepth 20000

/-- the bytes of a record's j-th sector -/
def chunk (b : List Nat) (j : Nat) : List Nat := (b.drop (511 * j)).take 511
theorem chunk_len (b : List Nat) (j : Nat) : (chunk b j).length = min (b.length - 511 * j) 511 := by unfold chunk; rw [List.length_take, List.length_drop]; omega
theorem chunk_more (b : List Nat) (j : Nat) : b.take (511 * j) ++ chunk b j = b.take (511 * (j + 1)) := by
  unfold chunk
  rw [show 511 * (j + 1) = 511 * j + 511 by omega, List.take_add]
theorem chunk_byte {b : List Nat} (h : ∀ x ∈ b, x < 256) (j : Nat) : ∀ x ∈ chunk b j, x < 256 := fun x hx => h x (List.mem_of_mem_drop (List.mem_of_mem_take hx))
theorem part_byte {L : List Nat} (h : ∀ x ∈ L, x < 256) : ∀ x ∈ partL L, x < 256 := by
  intro x hx
  unfold partL at hx
  rcases List.mem_append.1 hx with h' | h'
  · simp at h'; omega
  · exact h x h'
theorem part_len (L : List Nat) : (partL L).length = L.length + 1 := by unfold partL; simp
/-- bytes behind the mark -/
theorem src_part {W : World} {gz : Nat} {L : List Nat} (h : Fc.Src W (some ⟨gz, 0, none⟩) (padL (partL L))) (hl : L.length ≤ 511) : Fc.Src W (some ⟨gz, 1, none⟩) L := fun hp => ⟨gz, 1, rfl, fun i hi => by
  have hlen : (padL (partL L)).length = 512 := padL_len _ (by rw [part_len]; omega)
  obtain ⟨g', o', e, hc⟩ := h (by omega)
  cases e
  have h2 := hc (1 + i) (by omega)
  rw [Nat.zero_add] at h2
  rw [h2]
  congr 3
  unfold padL partL
  simp [List.getD, show 1 + i = i + 1 by omega, List.getElem?_append, hi]⟩
def nparts (n : Nat) : Nat := (n + 510) / 511
set_option maxHeartbeats 2000000 in
theorem readParts_ok {B : Nat} {w : World} {g L k l : Nat} {ns : List ByteArray} {fs en nr ag hd fl : Int} (h : Dq B w g L ns k) (p : Nat) (b : List Nat) (n : Nat) (hn : b.length = n) (hb : ∀ x ∈ b, x < 256) (hn2 : n ≤ 100000) (hL : L ≤ 1000) (hfit : p + 1 + nparts n ≤ L) (hAs : ∀ j, j < nparts n → ns[p + 1 + j]? = some (sec (partL (chunk b j)))) (hlog : LogAt w l g fs en (p : Int) nr ag hd fl) :
    Calls Tryd.prog 65 #[.pointer (some ⟨l, 0, none⟩), .int .i64 (n : Int)] w fun e w' => ∃ gr cr, e = .returned (.tuple #[.slice (some ⟨gr, 0, none⟩) n cr, .bool true, .int .i64 0]) ∧ Hid (w.heap.size ≤ gr) ∧ Hid (Fc.Src w' (some ⟨gr, 0, none⟩) b) ∧ Hid (w'.ownsRow w.heap.size 5 1 (.slice (some ⟨gr, 0, none⟩) n cr) n (Fw.cells b)) ∧ Hid (Below w.heap.size w w') := by
  obtain ⟨i0, hi, hz0, hz1, hz2⟩ := info_parts Fw.info8
  have H0 := Lib.hid h
  have HLg := Lib.hid hlog
  have HN := Lib.hid (fun _ : True => hn)
  have HBb := Lib.hid hb
  have HAs := Lib.hid hAs
  have hnp : nparts n ≤ 1000 := by omega
  have hmk := Fc.mk_bytes0 n (by omega) w
  have hown0 : (w.alloc (.cells (Fc.cells (List.replicate n 0)).toArray 5)).ownsRow w.heap.size 5 1 (.slice (some ⟨w.heap.size, 0, none⟩) 0 n) 0 [] := World.ownsRow_made w _ n (Nat.le_refl _) (by unfold maxLen; omega) (by simp [Fc.cells])
  have hb0 : Below w.heap.size w (w.alloc (.cells (Fc.cells (List.replicate n 0)).toArray 5)) := (Below.refl _ w).alloc (Nat.le_refl _) _
  generalize (w.alloc (.cells (Fc.cells (List.replicate n 0)).toArray 5)) = w1 at *
  have c3 := (log_cells (log_below hlog hb0)).2.2.2.1
  have HO0 : Hid (w1.ownsRow w.heap.size 5 1 (.slice (some ⟨w.heap.size, 0, none⟩) 0 n) (b.take (511 * 0)).length (Fw.cells (b.take (511 * 0)))) := Lib.hid (by simpa [Fw.cells] using hown0)
  have HB0 := Lib.hid hb0
  have hw1 : IntKind.i64.wrap ((p : Int) + 1) = (p : Int) + 1 := by rw [IntKind.wrap_i64]; omega
  clear h hlog hn hb hAs hown0 hb0
  go_enter Tryd.func65, Tryd.ntmps65
  go_wp2_with fail
  go_loopw [7, 8] (fun s x wr => ∃ (j m ga cap : Nat), s = .slice (some ⟨ga, 0, none⟩) m cap ∧ x = .int .i64 ((p : Int) + 1 + (j : Int)) ∧ m ≤ n ∧ j ≤ 1000 ∧ Hid (True → (b.take (511 * j)).length = m) ∧ Hid (wr.ownsRow w.heap.size 5 1 (.slice (some ⟨ga, 0, none⟩) m cap) (b.take (511 * j)).length (Fw.cells (b.take (511 * j)))) ∧ Hid (w.heap.size ≤ ga) ∧ Hid (Below w.heap.size w wr)) (fun _ x _ => ((p : Int) + 1 + 1000 - intOf x).toNat)
  case atStart => exact ⟨0, 0, _, _, rfl, by simp, by omega, by omega, Lib.hid fun _ => by simp, HO0, Lib.hid (Nat.le_refl _), HB0⟩
  case round =>
    obtain ⟨j, m, sa, cap, rfl, rfl, hmn, hj0, hm, hrow, hsa, hbel⟩ := hrel
    by_cases hlt : m < n
    · have hmj : 511 * j < n := by
        have h1 := hm.out trivial
        have h2 := HN.out trivial
        rw [List.length_take] at h1
        omega
      have hm2 : m = 511 * j := by
        have h1 := hm.out trivial
        have h2 := HN.out trivial
        rw [List.length_take] at h1
        omega
      have hjn : j < nparts n := by unfold nparts; omega
      have hlt' : (m : Int) < (n : Int) := by omega
      obtain ⟨q, hq⟩ : ∃ q, (chunk b j).length = q := ⟨_, rfl⟩
      have hq1 : q = min (n - m) 511 := by rw [← hq, chunk_len, HN.out trivial, hm2]
      have hq2 : min ((n : Int) - (m : Int)) 511 = (q : Int) := by omega
      have hq3 : 1 ≤ q ∧ q ≤ 511 ∧ m + q ≤ n := by omega
      have HQ := Lib.hid (fun _ : True => hq)
      have hsec := HAs.out j hjn
      have hAb := padL_byte (part_byte (chunk_byte HBb.out j))
      have hAl : (padL (partL (chunk b j))).length = 512 := padL_len _ (by rw [part_len, hq]; omega)
      have hD := Lib.hid (dq_below H0.out hbel.out)
      have d0 := (log_cells (log_below HLg.out hbel.out)).1
      have HRd : Hid (Calls Tryd.prog 31 #[.pointer (some ⟨g, 0, none⟩), .int .i64 ((p : Int) + 1 + (j : Int))] wr fun e w' => ∃ gz cap, e = .returned (.tuple #[.slice (some ⟨gz, 0, none⟩) 512 cap, .int .i64 0]) ∧ 512 ≤ cap ∧ Hid (Fc.Src w' (some ⟨gz, 0, none⟩) (padL (partL (chunk b j)))) ∧ Hid (Below wr.heap.size wr w')) := Lib.hid (by
        have hsz : (sec (partL (chunk b j))).size = 512 := by unfold sec; rw [Fw.sv_size, hAl]
        refine (dq_read2 hD.out ((p : Int) + 1 + (j : Int)) (p + 1 + j) (by push_cast; rfl) (by omega) _ hsec).mono ?_
        rintro e w' ⟨cap, rfl, a0, a1, a2, a3⟩
        rw [hsz] at a0
        have a1' : Fc.Src w' (some ⟨wr.heap.size, 0, none⟩) (padL (partL (chunk b j))) := by
          have e : Fw.bytesOf (sec (partL (chunk b j))) = padL (partL (chunk b j)) := bytesOf_sv _ hAb
          rw [e] at a1; exact a1
        rw [hsz]
        exact ⟨_, cap, rfl, a0, Lib.hid a1', Lib.hid a3⟩)
      have HPt : Hid (∀ W gz c, Fc.Src W (some ⟨gz, 0, none⟩) (padL (partL (chunk b j))) → Calls Tryd.prog 55 #[.slice (some ⟨gz, 1, none⟩) q c] W fun e w' => ∃ g, e = .returned (.slice (some ⟨g, 0, none⟩) 512 512) ∧ W.heap.size ≤ g ∧ SecRow w' g (partL (chunk b j)) ∧ Below W.heap.size W w' ∧ g < w'.heap.size) := Lib.hid fun W gz c hs => by
        have h1 := part_any (some ⟨gz, 1, none⟩) c (chunk b j) (by omega) W (Lib.hid (src_part hs (by omega))) (Lib.hid (.inr ⟨_, rfl⟩))
        rw [HQ.out trivial] at h1
        exact h1
      have HEq := Lib.hid (fun W ga ca gb hs hr => eq_sec (padL (partL (chunk b j))) (partL (chunk b j)) hAl hAb (by rw [part_len]; omega) (part_byte (chunk_byte HBb.out j)) W ga ca gb hs hr)
      rw [decide_eq_true rfl] at HEq
      have HE : Hid (True → (b.take (511 * (j + 1))).length = m + q ∧ (b.take (511 * (j + 1))).length = (b.take (511 * j)).length + q ∧ Fw.cells (b.take (511 * (j + 1))) = Fw.cells (b.take (511 * j)) ++ Fw.cells (chunk b j)) := Lib.hid fun _ => by
        rw [← chunk_more, List.length_append, hq, hm.out trivial]
        exact ⟨rfl, rfl, by simp [Fw.cells]⟩
      have hpj : j ≤ 999 := by omega
      have hw2 : IntKind.i64.wrap ((p : Int) + 1 + (j : Int) + 1) = (p : Int) + 1 + ((j + 1 : Nat) : Int) := by rw [IntKind.wrap_i64]; omega
      have hw3 : IntKind.i64.wrap ((n : Int) - (m : Int)) = (n : Int) - (m : Int) := by rw [IntKind.wrap_i64]; omega
      clear hsec hAb hAl hq hmj hjn hq1 hm2
      go_wp2_with fail
      refine HRd.out.mono ?_
      rintro e w2 ⟨gz, cd, rfl, hcd, hsrc, hb2⟩
      have hcd2 : (1 : Int) ≤ (cd : Int) := by omega
      have hcd3 : ¬ cd = 1 := by omega
      have hcd4 : ¬ cd - 1 = 0 := by omega
      have hcd5 : q ≤ cd - 1 := by omega
      go_wp2_with fail
      refine (HPt.out w2 gz (cd - 1) hsrc.out).mono ?_
      rintro e w3 ⟨gp, rfl, hgp, hrp, hb3, _⟩
      have HEE := Lib.hid (HEq.out w3 gz cd gp (Fc.src_later hsrc.out hb3) hrp)
      have hb23 : Below wr.heap.size wr w3 := hb2.out.trans (hb3.mono hb2.out.size)
      have hrow3 := Lib.hid (Fk.own_only hrow.out (Fk.Only.of_below (S := fun _ => False) hb23) fun _ _ x => x)
      have hbel3 := Lib.hid (hbel.out.trans (hb23.mono hbel.out.size))
      have hsp := src_part (Fc.src_later hsrc.out hb3) (by have := HQ.out trivial; omega)
      have HNW : Hid (∀ (x : Nat) (u : Value), (Fw.cells (chunk b j))[x]? = some u → w3.cell? ((⟨gz, 1, none⟩ : Addr).add x) = some u) := Lib.hid fun x u hu => by
        have hp0 : 0 < (Fc.cells (chunk b j)).length := by rw [Fc.cells_len, HQ.out trivial]; omega
        obtain ⟨ad, e, h⟩ := Fc.src_pos hsp hp0
        cases e
        exact h x u hu
      have K3 : Hid ((b.take (511 * j)).length + q ≤ maxLen) := Lib.hid (by rw [hm.out trivial]; unfold maxLen; omega)
      have K4 : Hid (((b.take (511 * j)).length + q) * 1 ≤ 140737488355328) := Lib.hid (by rw [hm.out trivial]; omega)
      have K5 := Lib.hid hbel3.out.size
      have KL : Hid ((Fw.cells (chunk b j)).length = q * 1) := Lib.hid (by rw [Fw.cells_len, HQ.out trivial, Nat.mul_one])
      clear hb3 hb23 hrp hgp hsp hrow hsrc hb2
      go_wp2_with fail
      refine HEE.out.mono ?_
      rintro e w4 ⟨rfl, rfl⟩
      go_wp2_with (at_builtin; refine wpList_append_own _ rfl _ _ 34 rfl w.heap.size 5 i0 (.int .u8 0) 1 1 Tryd.underlying34 hi hz0 hz1 hz2 rfl (by decide) _ _ _ rfl hrow3.out ⟨gz, 1, none⟩ q (cd - 1) (Fw.cells (chunk b j)) rfl KL.out HNW.out (Fw.cells_one _) K3.out K4.out K5.out ?_; intro v' w5 hown' hgrow _)
      have hown2 : Fw.Own w.heap.size v' (b.take (511 * (j + 1))) w5 := by
        unfold Fw.Own
        rw [(HE.out trivial).2.1, (HE.out trivial).2.2]
        exact hown'
      obtain ⟨a2, cap2, rfl, hge2, _, _⟩ := own_parts hown2 (by rw [(HE.out trivial).1]; omega)
      have hga2 := Lib.hid hge2
      clear hge2
      have hown3 := Lib.hid hown2
      rw [(HE.out trivial).1]
      have hbel5 := Lib.hid (own_app hbel3.out K5.out hrow3.out hgrow)
      clear hown' hown2 hgrow
      go_wp2_with fail
      go_roundw
      case rel => exact ⟨j + 1, m + q, a2, cap2, rfl, by first | rfl | (congr 1), by omega, by omega, Lib.hid fun _ => (HE.out trivial).1, by have h9 := hown3.out; unfold Fw.Own at h9; rw [(HE.out trivial).1] at h9; exact Lib.hid (by rw [(HE.out trivial).1]; exact h9), hga2, hbel5⟩
      case measure => simp [intOf]; omega
    · obtain rfl : m = n := by omega
      have hk' : b.take (511 * j) = b := List.take_of_length_le (by have h1 := hm.out trivial; have h2 := HN.out trivial; rw [List.length_take] at h1; omega)
      rw [hk', HN.out trivial] at hrow
      have hsrc : Hid (Fc.Src wr (some ⟨sa, 0, none⟩) b) := Lib.hid (own_src (B := w.heap.size) (cap := cap) (by
        unfold Fw.Own
        rw [HN.out trivial]
        exact hrow.out))
      go_wp2_with fail
      go_ret3
      exact ⟨sa, cap, rfl, hsa, hsrc, hrow, hbel⟩
end Go.Proofs.YtfhgdcljhncjmaaDoor
