/- readParts, of whatever sectors stand there. -/
import Derived.Test.YtfhgdcljhncjmaaDoorWalN
namespace Go.Proofs.YtfhgdcljhncjmaaDoor
open Go.ChangeShapes Go.WideShapes Go.ChangeAt Go.RowKit
set_option linter.unusedVariables false
set_option maxRecDepth 20000

/-- all sectors are whole; a sector's bytes -/
def Full (ns : List ByteArray) : Prop := ∀ s ∈ ns, s.size = 512
def sb (ns : List ByteArray) (i : Nat) : List Nat := Fw.bytesOf (ns.getD i ByteArray.empty)
theorem bytes_lt (s : ByteArray) : ∀ b ∈ Fw.bytesOf s, b < 256 := by
  intro b hb
  unfold Fw.bytesOf at hb
  obtain ⟨x, _, rfl⟩ := List.mem_map.1 hb
  exact x.toNat_lt
theorem sb_get {ns : List ByteArray} (hf : Full ns) (i : Nat) (hi : i < ns.length) : ns[i]? = some (Fw.sv (sb ns i)) ∧ (sb ns i).length = 512 ∧ ∀ b ∈ sb ns i, b < 256 := by
  have e : ns.getD i ByteArray.empty = ns[i] := by simp [List.getD, hi]
  refine ⟨?_, ?_, bytes_lt _⟩
  · unfold sb
    rw [Fw.sv_bytesOf, e]
    simp [hi]
  · unfold sb
    rw [Fw.bytesOf_len, e]
    exact hf _ (List.getElem_mem hi)
/-- what a record's j-th sector adds to so many bytes; what the first j add -/
def piece (ns : List ByteArray) (p n j : Nat) : List Nat := ((sb ns (p + 1 + j)).drop 1).take (n - 511 * j)
def buf (ns : List ByteArray) (p n : Nat) : Nat → List Nat
  | 0 => []
  | j + 1 => buf ns p n j ++ piece ns p n j
def PartsOk (ns : List ByteArray) (p n : Nat) : Prop := ∀ j, j < nparts n → sb ns (p + 1 + j) = padL (partL (piece ns p n j))
theorem piece_len {ns : List ByteArray} (hf : Full ns) (p n j : Nat) (h : p + 1 + j < ns.length) : (piece ns p n j).length = min (n - 511 * j) 511 := by
  have := (sb_get hf _ h).2.1
  unfold piece
  rw [List.length_take, List.length_drop, this]
theorem piece_byte (ns : List ByteArray) (p n j : Nat) : ∀ b ∈ piece ns p n j, b < 256 := fun b hb => bytes_lt _ b (List.mem_of_mem_drop (List.mem_of_mem_take hb))
theorem buf_len {ns : List ByteArray} (hf : Full ns) (p n : Nat) : ∀ j, p + 1 + j ≤ ns.length → (buf ns p n j).length = min n (511 * j)
  | 0, _ => by simp [buf]
  | j + 1, h => by
    rw [buf, List.length_append, buf_len hf p n j (by omega), piece_len hf p n j (by omega)]
    omega
theorem buf_byte (ns : List ByteArray) (p n : Nat) : ∀ j, ∀ b ∈ buf ns p n j, b < 256
  | 0, b, h => by simp [buf] at h
  | j + 1, b, h => by
    rw [buf] at h
    rcases List.mem_append.1 h with h | h
    · exact buf_byte ns p n j b h
    · exact piece_byte ns p n j b h
theorem src_tail {W : World} {gz : Nat} {A : List Nat} (h : Fc.Src W (some ⟨gz, 0, none⟩) A) (q : Nat) : Fc.Src W (some ⟨gz, 1, none⟩) ((A.drop 1).take q) := fun hp => ⟨gz, 1, rfl, fun i hi => by
  rw [List.length_take, List.length_drop] at hi hp
  obtain ⟨g', o', e, hc⟩ := h (by omega)
  cases e
  have h2 := hc (1 + i) (by omega)
  rw [Nat.zero_add] at h2
  rw [h2]
  congr 3
  have hiq : i < q := by omega
  simp [List.getD, hiq, Nat.add_comm 1 i]⟩
set_option maxHeartbeats 2000000 in
theorem readParts_any {B : Nat} {w : World} {g L k l : Nat} {ns : List ByteArray} {fs en nr ag hd fl : Int} (h : Dq B w g L ns k) (hf : Full ns) (p : Nat) (n : Nat) (hn2 : n ≤ 100000) (hL : L ≤ 1000) (hfit : p + 1 + nparts n ≤ L) (hlog : LogAt w l g fs en (p : Int) nr ag hd fl) :
    Calls Tryd.prog 65 #[.pointer (some ⟨l, 0, none⟩), .int .i64 (n : Int)] w fun e w' => ((PartsOk ns p n ∧ ∃ gr cr, e = .returned (.tuple #[.slice (some ⟨gr, 0, none⟩) n cr, .bool true, .int .i64 0]) ∧ Hid (w.heap.size ≤ gr) ∧ Hid (Fc.Src w' (some ⟨gr, 0, none⟩) (buf ns p n (nparts n)))) ∨ (¬ PartsOk ns p n ∧ e = .returned (.tuple #[.slice none 0 0, .bool false, .int .i64 0]))) ∧ Hid (Below w.heap.size w w') := by
  obtain ⟨i0, hi, hz0, hz1, hz2⟩ := info_parts Fw.info8
  have hnsL := dq_len h
  have H0 := Lib.hid h
  have HLg := Lib.hid hlog
  have hnp : nparts n ≤ 1000 := by omega
  have hmk := Fc.mk_bytes0 n (by omega) w
  have hown0 : (w.alloc (.cells (Fc.cells (List.replicate n 0)).toArray 5)).ownsRow w.heap.size 5 1 (.slice (some ⟨w.heap.size, 0, none⟩) 0 n) 0 [] := World.ownsRow_made w _ n (Nat.le_refl _) (by unfold maxLen; omega) (by simp [Fc.cells])
  have hb0 : Below w.heap.size w (w.alloc (.cells (Fc.cells (List.replicate n 0)).toArray 5)) := (Below.refl _ w).alloc (Nat.le_refl _) _
  generalize (w.alloc (.cells (Fc.cells (List.replicate n 0)).toArray 5)) = w1 at *
  have c3 := (log_cells (log_below hlog hb0)).2.2.2.1
  have HO0 : Hid (w1.ownsRow w.heap.size 5 1 (.slice (some ⟨w.heap.size, 0, none⟩) 0 n) (buf ns p n 0).length (Fw.cells (buf ns p n 0))) := Lib.hid (by simpa [Fw.cells, buf] using hown0)
  have HB0 := Lib.hid hb0
  have hw1 : IntKind.i64.wrap ((p : Int) + 1) = (p : Int) + 1 := by rw [IntKind.wrap_i64]; omega
  clear h hlog hown0 hb0
  have HBl : Hid (∀ j, j ≤ nparts n → (buf ns p n j).length = min n (511 * j)) := Lib.hid fun j hj => buf_len hf p n j (by omega)
  have HPl : Hid (∀ j, j < nparts n → (piece ns p n j).length = min (n - 511 * j) 511) := Lib.hid fun j hj => piece_len hf p n j (by omega)
  have HSb : Hid (∀ j, j < nparts n → ns[p + 1 + j]? = some (Fw.sv (sb ns (p + 1 + j))) ∧ (sb ns (p + 1 + j)).length = 512 ∧ ∀ b ∈ sb ns (p + 1 + j), b < 256) := Lib.hid fun j hj => sb_get hf _ (by omega)
  clear hnsL
  go_enter Tryd.func65, Tryd.ntmps65
  go_wp2_with fail
  go_loopw [7, 8] (fun s x wr => ∃ (j m ga cap : Nat), s = .slice (some ⟨ga, 0, none⟩) m cap ∧ x = .int .i64 ((p : Int) + 1 + (j : Int)) ∧ m ≤ n ∧ j ≤ 1000 ∧ Hid (True → j ≤ nparts n ∧ (buf ns p n j).length = m) ∧ Hid (∀ i, i < j → sb ns (p + 1 + i) = padL (partL (piece ns p n i))) ∧ Hid (wr.ownsRow w.heap.size 5 1 (.slice (some ⟨ga, 0, none⟩) m cap) (buf ns p n j).length (Fw.cells (buf ns p n j))) ∧ Hid (w.heap.size ≤ ga) ∧ Hid (Below w.heap.size w wr)) (fun _ x _ => ((p : Int) + 1 + 1000 - intOf x).toNat)
  case atStart => exact ⟨0, 0, _, _, rfl, by simp, by omega, by omega, Lib.hid fun _ => ⟨by omega, by simp [buf]⟩, Lib.hid fun i hi => by omega, HO0, Lib.hid (Nat.le_refl _), HB0⟩
  case round =>
    obtain ⟨j, m, sa, cap, rfl, rfl, hmn, hj0, hm, hprev, hrow, hsa, hbel⟩ := hrel
    by_cases hlt : m < n
    · have hmj : 511 * j < n := by
        have h1 := hm.out trivial
        have h2 := HBl.out j h1.1
        omega
      have hm2 : m = 511 * j := by
        have h1 := hm.out trivial
        have h2 := HBl.out j h1.1
        omega
      have hjn : j < nparts n := by unfold nparts; omega
      have hlt' : (m : Int) < (n : Int) := by omega
      obtain ⟨q, hq⟩ : ∃ q, (piece ns p n j).length = q := ⟨_, rfl⟩
      have hq1 : q = min (n - m) 511 := by rw [← hq, HPl.out j hjn, hm2]
      have hq2 : min ((n : Int) - (m : Int)) 511 = (q : Int) := by omega
      have hq3 : 1 ≤ q ∧ q ≤ 511 ∧ m + q ≤ n := by omega
      have HQ := Lib.hid (fun _ : True => hq)
      obtain ⟨hsec, hAl, hAb⟩ := HSb.out j hjn
      have hPb := piece_byte ns p n j
      have hP : piece ns p n j = ((sb ns (p + 1 + j)).drop 1).take q := by
        have h1 : piece ns p n j = ((sb ns (p + 1 + j)).drop 1).take (n - 511 * j) := rfl
        have h2 : ((sb ns (p + 1 + j)).drop 1).length = 511 := by rw [List.length_drop, hAl]
        rw [h1]
        by_cases h3 : n - 511 * j ≤ 511
        · congr 1; omega
        · rw [List.take_of_length_le (by omega), List.take_of_length_le (by omega)]
      have HPP := Lib.hid (fun _ : True => hP)
      obtain ⟨A, hA⟩ : ∃ A, sb ns (p + 1 + j) = A := ⟨_, rfl⟩
      have HA := Lib.hid (fun _ : True => hA)
      have hD := Lib.hid (dq_below H0.out hbel.out)
      have d0 := (log_cells (log_below HLg.out hbel.out)).1
      have HRd : Hid (Calls Tryd.prog 31 #[.pointer (some ⟨g, 0, none⟩), .int .i64 ((p : Int) + 1 + (j : Int))] wr fun e w' => ∃ gz cap, e = .returned (.tuple #[.slice (some ⟨gz, 0, none⟩) 512 cap, .int .i64 0]) ∧ 512 ≤ cap ∧ Hid (Fc.Src w' (some ⟨gz, 0, none⟩) A) ∧ Hid (Below wr.heap.size wr w')) := Lib.hid (by
        rw [hA] at hsec hAl hAb
        have hsz : (Fw.sv A).size = 512 := by rw [Fw.sv_size, hAl]
        refine (dq_read2 hD.out ((p : Int) + 1 + (j : Int)) (p + 1 + j) (by push_cast; rfl) (by omega) _ hsec).mono ?_
        rintro e w' ⟨cap, rfl, a0, a1, a2, a3⟩
        rw [hsz] at a0
        rw [bytesOf_sv _ hAb] at a1
        rw [hsz]
        exact ⟨_, cap, rfl, a0, Lib.hid a1, Lib.hid a3⟩)
      have HPt : Hid (∀ W gz c, Fc.Src W (some ⟨gz, 0, none⟩) A → Calls Tryd.prog 55 #[.slice (some ⟨gz, 1, none⟩) q c] W fun e w' => ∃ g, e = .returned (.slice (some ⟨g, 0, none⟩) 512 512) ∧ W.heap.size ≤ g ∧ SecRow w' g (partL (piece ns p n j)) ∧ Below W.heap.size W w' ∧ g < w'.heap.size) := Lib.hid fun W gz c hs => by
        have h1 := part_any (some ⟨gz, 1, none⟩) c (piece ns p n j) (by rw [HQ.out trivial]; omega) W (Lib.hid (by rw [HPP.out trivial, HA.out trivial]; exact src_tail hs q)) (Lib.hid (.inr ⟨_, rfl⟩))
        rw [HQ.out trivial] at h1
        exact h1
      have HEq := Lib.hid (fun W ga ca gb hs hr => eq_sec A (partL (piece ns p n j)) (by rw [← hA]; exact hAl) (by rw [← hA]; exact hAb) (by rw [part_len, HQ.out trivial]; omega) (part_byte hPb) W ga ca gb hs hr)
      have HE : Hid (True → j + 1 ≤ nparts n ∧ (buf ns p n (j + 1)).length = m + q ∧ (buf ns p n (j + 1)).length = (buf ns p n j).length + q ∧ Fw.cells (buf ns p n (j + 1)) = Fw.cells (buf ns p n j) ++ Fw.cells (piece ns p n j)) := Lib.hid fun _ => by
        rw [buf, List.length_append, hq, (hm.out trivial).2]
        exact ⟨hjn, rfl, rfl, by simp [Fw.cells]⟩
      have hpj : j ≤ 999 := by omega
      have hw2 : IntKind.i64.wrap ((p : Int) + 1 + (j : Int) + 1) = (p : Int) + 1 + ((j + 1 : Nat) : Int) := by rw [IntKind.wrap_i64]; omega
      have hw3 : IntKind.i64.wrap ((n : Int) - (m : Int)) = (n : Int) - (m : Int) := by rw [IntKind.wrap_i64]; omega
      have HJN := Lib.hid (fun _ : True => hjn)
      clear hsec hAb hAl hq hmj hjn hq1 hm2 hA hP hPb
      go_wp2_with fail
      refine HRd.out.mono ?_
      rintro e w2 ⟨gz, cd, rfl, hcd, hsrc, hb2⟩
      have hcd2 : (1 : Int) ≤ (cd : Int) := by omega
      have hcd3 : ¬ cd = 1 := by omega
      have hcd4 : ¬ cd - 1 = 0 := by omega
      have hcd5 : q ≤ cd - 1 := by omega
      go_wp2_with fail
      refine (HPt.out w2 gz (cd - 1) hsrc.out).mono ?_
      rintro e w3 ⟨gp, rfl, hgp, hrp, hb3, _⟩
      have HEE := Lib.hid (HEq.out w3 gz cd gp (Fc.src_later hsrc.out hb3) hrp)
      have hb23 : Below wr.heap.size wr w3 := hb2.out.trans (hb3.mono hb2.out.size)
      have hrow3 := Lib.hid (Fk.own_only hrow.out (Fk.Only.of_below (S := fun _ => False) hb23) fun _ _ x => x)
      have hbel3 := Lib.hid (hbel.out.trans (hb23.mono hbel.out.size))
      by_cases hsame : A = padL (partL (piece ns p n j))
      · rw [decide_eq_true hsame] at HEE
        have hsp : Fc.Src w3 (some ⟨gz, 1, none⟩) (piece ns p n j) := by
          rw [HPP.out trivial, HA.out trivial]; exact src_tail (Fc.src_later hsrc.out hb3) q
        have HNW : Hid (∀ (x : Nat) (u : Value), (Fw.cells (piece ns p n j))[x]? = some u → w3.cell? ((⟨gz, 1, none⟩ : Addr).add x) = some u) := Lib.hid fun x u hu => by
          have hp0 : 0 < (Fc.cells (piece ns p n j)).length := by rw [Fc.cells_len, HQ.out trivial]; omega
          obtain ⟨ad, e, h⟩ := Fc.src_pos hsp hp0
          cases e
          exact h x u hu
        have K3 : Hid ((buf ns p n j).length + q ≤ maxLen) := Lib.hid (by rw [(hm.out trivial).2]; unfold maxLen; omega)
        have K4 : Hid (((buf ns p n j).length + q) * 1 ≤ 140737488355328) := Lib.hid (by rw [(hm.out trivial).2]; omega)
        have K5 := Lib.hid hbel3.out.size
        have KL : Hid ((Fw.cells (piece ns p n j)).length = q * 1) := Lib.hid (by rw [Fw.cells_len, HQ.out trivial, Nat.mul_one])
        have hprev2 : Hid (∀ i, i < j + 1 → sb ns (p + 1 + i) = padL (partL (piece ns p n i))) := Lib.hid fun i hi => by
          rcases Nat.lt_or_ge i j with h1 | h1
          · exact hprev.out i h1
          · obtain rfl : i = j := by omega
            rw [HA.out trivial]; exact hsame
        clear hb3 hb23 hrp hgp hsp hrow hsrc hb2 hsame
        go_wp2_with fail
        refine HEE.out.mono ?_
        rintro e w4 ⟨rfl, rfl⟩
        go_wp2_with (at_builtin; refine wpList_append_own _ rfl _ _ 34 rfl w.heap.size 5 i0 (.int .u8 0) 1 1 Tryd.underlying34 hi hz0 hz1 hz2 rfl (by decide) _ _ _ rfl hrow3.out ⟨gz, 1, none⟩ q (cd - 1) (Fw.cells (piece ns p n j)) rfl KL.out HNW.out (Fw.cells_one _) K3.out K4.out K5.out ?_; intro v' w5 hown' hgrow _)
        have hown2 : Fw.Own w.heap.size v' (buf ns p n (j + 1)) w5 := by
          unfold Fw.Own
          rw [(HE.out trivial).2.2.1, (HE.out trivial).2.2.2]
          exact hown'
        obtain ⟨a2, cap2, rfl, hge2, _, _⟩ := own_parts hown2 (by rw [(HE.out trivial).2.1]; omega)
        have hga2 := Lib.hid hge2
        clear hge2
        have hown3 := Lib.hid hown2
        rw [(HE.out trivial).2.1]
        have hbel5 := Lib.hid (own_app hbel3.out K5.out hrow3.out hgrow)
        clear hown' hown2 hgrow
        go_wp2_with fail
        go_roundw
        case rel => exact ⟨j + 1, m + q, a2, cap2, rfl, by first | rfl | (congr 1), by omega, by omega, Lib.hid fun _ => ⟨(HE.out trivial).1, (HE.out trivial).2.1⟩, hprev2, by have h9 := hown3.out; unfold Fw.Own at h9; rw [(HE.out trivial).2.1] at h9; exact Lib.hid (by rw [(HE.out trivial).2.1]; exact h9), hga2, hbel5⟩
        case measure => simp [intOf]; omega
      · rw [decide_eq_false hsame] at HEE
        have hno : Hid (¬ PartsOk ns p n) := Lib.hid fun hp => hsame (by rw [← HA.out trivial]; exact hp j (HJN.out trivial))
        clear hb3 hb23 hrp hgp hrow hsrc hb2 hsame
        go_wp2_with fail
        refine HEE.out.mono ?_
        rintro e w4 ⟨rfl, rfl⟩
        go_wp2_with fail
        go_ret3
        exact ⟨.inr ⟨hno.out, rfl⟩, hbel3⟩
    · obtain rfl : m = n := by omega
      have hjn : j = nparts m := by
        have h1 := hm.out trivial
        have h2 := HBl.out j h1.1
        have h3 := h1.1
        unfold nparts at h3 ⊢
        omega
      have hok : Hid (PartsOk ns p m) := Lib.hid fun i hi => hprev.out i (by omega)
      have hsrc : Hid (Fc.Src wr (some ⟨sa, 0, none⟩) (buf ns p m (nparts m))) := Lib.hid (by
        rw [← hjn]
        have hl := (hm.out trivial).2
        refine own_src (B := w.heap.size) (cap := cap) ?_
        unfold Fw.Own
        rw [hl]
        have := hrow.out
        rw [hl] at this
        exact this)
      clear hjn hm
      go_wp2_with fail
      go_ret3
      exact ⟨.inl ⟨hok.out, sa, cap, rfl, hsa, hsrc⟩, hbel⟩
end Go.Proofs.YtfhgdcljhncjmaaDoor
