/- ValLong: its trees; rows of values that are put together. -/
import Derived.Test.YtpacjcgpeomnaaaDoorValH
import Derived.Test.YtpacjcgpeomnaaaDoorValU
namespace Go.Proofs.YtpacjcgpeomnaaaDoor
open Go.ChangeShapes Go.WideShapes Go.ChangeAt Go.RowKit
open Go.Proofs.YtpacjcgpeomnaaaDoor.Fw (zz vb bytesOf cells)
set_option linter.unusedVariables false
set_option maxRecDepth 20000

/-- so deep -/
def dT : Nat → T
  | 0 => .mk 6 0 ⟨#[]⟩ []
  | n + 1 => .mk 3 0 ⟨#[]⟩ [dT n]
theorem dT_size : ∀ n, (dT n).cnt = n + 1 ∧ (dT n).ht = n + 1
  | 0 => by decide
  | n + 1 => by
    obtain ⟨h1, h2⟩ := dT_size n
    rw [T.cnt_eq, T.ht_eq]
    show 1 + T.cnts [dT n] = _ ∧ 1 + T.hts [dT n] = _
    unfold T.cnts T.hts
    unfold T.cnts T.hts
    rw [h1, h2]
    omega
theorem rightB_consJ (x : Nat × T) (l : List (Nat × T)) : rightB (x :: l) = ((decide (x.1 ≤ 200) && formB x.2) && rightB l) := by unfold rightB; rw [List.all_cons]
theorem dT_pre (n d : Nat) : (dT (n + 1)).pre d = (d, dT (n + 1)) :: (dT n).pre (d + 1) := by
  rw [T.pre_eq]
  show _ :: T.pres (d + 1) [dT n] = _
  unfold T.pres
  unfold T.pres
  rw [List.append_nil]
theorem dT_right : ∀ n d, rightB ((dT n).pre d) = decide (d + n ≤ 200)
  | 0, d => by
    have e : (dT 0).pre d = [(d, dT 0)] := by rw [T.pre_eq]; show _ :: T.pres (d + 1) [] = _; unfold T.pres; rfl
    rw [e, rightB_consJ]
    have hf : formB (dT 0) = true := by decide +kernel
    simp [hf, rightB]
  | n + 1, d => by
    have hf : formB (dT (n + 1)) = true := by
      show formB (.mk 3 0 ⟨#[]⟩ [dT n]) = true
      unfold formB
      simp only [T.k, T.n, T.t, T.ks, List.length_singleton]
      rw [if_neg (by decide), if_neg (by decide), if_neg (by decide), if_pos trivial]
      have he : empB ⟨#[]⟩ = true := by decide +kernel
      simp [he]
    rw [dT_pre, rightB_consJ, dT_right n (d + 1)]
    show ((decide (d ≤ 200) && formB (dT (n + 1))) && _) = _
    rw [hf, Bool.and_true, Bool.eq_iff_iff, Bool.and_eq_true, decide_eq_true_eq, decide_eq_true_eq, decide_eq_true_eq]
    omega
theorem dT_tot : ∀ n d, totN ((dT n).pre d) ≤ 3 * n + 1
  | 0, d => by
    have e : (dT 0).pre d = [(d, dT 0)] := by rw [T.pre_eq]; show _ :: T.pres (d + 1) [] = _; unfold T.pres; rfl
    rw [e]
    show ([(d, dT 0)].flatMap fun x => front x.2).length ≤ _
    have hf : (front (dT 0)).length = 1 := by decide +kernel
    simp [hf]
  | n + 1, d => by
    have hf : (front (dT (n + 1))).length = 3 := by
      show (front (.mk 3 0 ⟨#[]⟩ [dT n])).length = 3
      unfold front
      simp only [T.k, T.n, T.t, T.ks, List.length_singleton]
      rw [if_neg (by decide), if_neg (by decide), if_pos trivial]
      decide +kernel
    have := dT_tot n (d + 1)
    rw [dT_pre]
    unfold totN at this ⊢
    rw [List.flatMap_cons, List.length_append]
    have : (front (d, dT (n + 1)).2).length = 3 := hf
    omega
theorem dT_chk (n : Nat) (h : n ≤ 4000) : chk (dT n) = if n + 1 ≤ 200 then 0 else 2 := by
  have h1 := dT_right n 1
  have h2 : (bytesT (dT n)).length ≤ 3 * n + 1 := dT_tot n 1
  unfold chk
  rw [h1]
  by_cases h3 : n + 1 ≤ 200
  · rw [if_neg (by simp; omega), if_neg (by omega), if_pos h3]
  · rw [if_pos (by simp; omega), if_neg h3]
/-- so wide -/
def kV (s : ByteArray) : V := .mk 2 0 s none 0 []
def vW (a : Option Addr) (cap c : Nat) (s : ByteArray) : V := .mk 4 0 ⟨#[]⟩ a cap (List.replicate c (kV s))
theorem er_list : ∀ l : List V, ers l = l.map er
  | [] => by unfold ers; rfl
  | v :: vs => by unfold ers; rw [er_list vs, List.map_cons]
theorem vW_size (a : Option Addr) (cap c : Nat) (s : ByteArray) : (er (vW a cap c s)).cnt = 1 + c ∧ (er (vW a cap c s)).ht ≤ 2 := by
  have e : er (vW a cap c s) = .mk 4 0 ⟨#[]⟩ (List.replicate c (.mk 2 0 s [])) := by
    unfold vW
    rw [er_eq]
    simp only [V.k, V.n, V.t, V.ks, List.map_replicate]
    have : er (kV s) = .mk 2 0 s [] := by unfold kV; rw [er_eq]; rfl
    rw [this]
  have hc : ∀ c, T.cnts (List.replicate c (.mk 2 0 s [])) = c := by
    intro c
    induction c with
    | zero => unfold T.cnts; rfl
    | succ n ih => rw [List.replicate_succ, T.cnts, ih, T.cnt_eq]; show 1 + T.cnts [] + n = _; unfold T.cnts; omega
  have h0 : T.hts [] = 0 := by unfold T.hts; rfl
  have hcs : ∀ (a : T) (l : List T), T.hts (a :: l) = max (T.ht a) (T.hts l) := fun a l => by conv => lhs; unfold T.hts
  have hh : ∀ c, T.hts (List.replicate c (.mk 2 0 s [])) ≤ 1 := by
    intro c
    induction c with
    | zero => rw [List.replicate_zero, h0]; omega
    | succ n ih => rw [List.replicate_succ, hcs, T.ht_eq]; show max (1 + T.hts []) _ ≤ _; rw [h0]; omega
  rw [e, T.cnt_eq, T.ht_eq]
  show 1 + T.cnts (List.replicate c (.mk 2 0 s [])) = _ ∧ 1 + T.hts (List.replicate c (.mk 2 0 s [])) ≤ _
  rw [hc]
  have := hh c
  omega
/-- a row of values -/
def cell4 (v : V) : List Value := [.int .i64 v.k, .int .i64 v.n, .string v.t, .slice v.a v.ks.length v.cap]
def cellsJ (L : List V) : List Value := L.flatMap cell4
theorem cellsJ_snoc (L : List V) (v : V) : cellsJ (L ++ [v]) = cellsJ L ++ cell4 v := by simp [cellsJ]
theorem cellsJ_len (L : List V) : (cellsJ L).length = L.length * 4 := by
  induction L with
  | nil => rfl
  | cons v vs ih => unfold cellsJ at ih ⊢; rw [List.flatMap_cons, List.length_append, ih, List.length_cons]; show 4 + _ = _; omega
def OwnV (B : Nat) (v : Value) (L : List V) (w : World) : Prop := w.ownsRow B 24 4 v L.length (cellsJ L)
theorem infoV : (Tryd.prog.info? 24).map (fun i => (i.zero, i.size, i.bytes)) = some (some (.agg #[.int .i64 0, .int .i64 0, .string ⟨#[]⟩, .slice none 0 0]), 4, 56) := by kernel_rfl
theorem ownV_later {B : Nat} {v : Value} {L : List V} {w W : World} (h : OwnV B v L w) (hb : Below w.heap.size w W) : OwnV B v L W := by
  refine ⟨h.1, ?_⟩
  rcases h.2 with h | ⟨g, cap, cur, e, hg, hh, rest⟩
  · exact .inl h
  · refine .inr ⟨g, cap, cur, e, hg, ?_, rest⟩
    rw [hb.block g (Array.getElem?_eq_some_iff.1 hh).1]
    exact hh
theorem ownV_form {B : Nat} {v : Value} {L : List V} {w : World} (h : OwnV B v L w) : ∃ a cap, v = .slice a L.length cap := by
  rcases h.2 with ⟨rfl, e⟩ | ⟨g, cap, cur, rfl, _⟩
  · exact ⟨none, 0, by rw [e]⟩
  · exact ⟨_, _, rfl⟩
theorem app_val {B : Nat} {w : World} {v : Value} {L : List V} (hown : OwnV B v L w) (hB : B ≤ w.heap.size) (x : V) (hn : L.length ≤ 1000000) (ty : TypeId) :
    ∃ v' w', (Builtin.append_ #[22, 22] ty #[v, .slice (some ⟨w.heap.size, 0, none⟩) 1 1]).run Tryd.prog (w.alloc (.cells #[.int .i64 x.k, .int .i64 x.n, .string x.t, .slice x.a x.ks.length x.cap] 24)) = .ok v' w' ∧ OwnV B v' (L ++ [x]) w' ∧ Below B w w' := by
  obtain ⟨i0, hi, hz0, hz1, hz2⟩ := info_parts infoV
  have hal : Below w.heap.size w (w.alloc (.cells #[.int .i64 x.k, .int .i64 x.n, .string x.t, .slice x.a x.ks.length x.cap] 24)) := (Below.refl _ _).alloc (Nat.le_refl _) _
  have hown2 := ownV_later hown hal
  obtain ⟨v', w', hr, a1, a2, _⟩ := run_append_own (P := Tryd.prog) _ B 22 ty 24 i0 _ 4 56 Tryd.underlying22 hi hz0 hz1 hz2 rfl (by decide) v L.length _ hown2 ⟨w.heap.size, 0, none⟩ 1 1 (cell4 x) rfl (fun j u hj => by
    have h9 : (w.alloc (.cells #[.int .i64 x.k, .int .i64 x.n, .string x.t, .slice x.a x.ks.length x.cap] 24)).heap[w.heap.size]? = some (.cells #[.int .i64 x.k, .int .i64 x.n, .string x.t, .slice x.a x.ks.length x.cap] 24) := by show (w.heap.push _)[w.heap.size]? = _; simp
    have hadd : (⟨w.heap.size, 0, none⟩ : Addr).add j = ⟨w.heap.size, j, none⟩ := by unfold Addr.add; split <;> simp_all
    rw [hadd]
    simp only [World.cell?, h9]
    have hlt : j < 4 := (List.getElem?_eq_some_iff.1 hj).1
    unfold cell4 at hj
    match j, hlt with
    | 0, _ => exact hj
    | 1, _ => exact hj
    | 2, _ => exact hj
    | 3, _ => exact hj) (fun u hu => by
      unfold cell4 at hu
      simp only [List.mem_cons, List.not_mem_nil, or_false] at hu
      rcases hu with rfl | rfl | rfl | rfl <;> rfl) (by unfold maxLen; omega) (by omega) (Nat.le_trans hB hal.size)
  refine ⟨v', w', hr, ?_, (hal.mono hB).trans ((Below.refl B _).grown a2 (Nat.le_trans hB hal.size) fun k hk => ?_)⟩
  · unfold OwnV
    rw [cellsJ_snoc, List.length_append]
    exact a1
  · rcases hown.2 with ⟨h0, _⟩ | ⟨g', cap, cur, hv, hg, _⟩
    · rw [h0] at hk; cases hk
    · rw [hv] at hk; cases hk; exact hg
theorem row_at {w : World} {g : Nat} {cur : Array Value} {e : TypeId} {F : Nat → Prop} (hh : w.heap[g]? = some (.cells cur e (0, 0))) : ∀ (L : List V) (o : Nat), (cur.toList.drop o).take (L.length * 4) = cellsJ L → (∀ x ∈ L, Lies F w x) → Row F w g o L
  | [], o, _, _ => by unfold Row; trivial
  | v :: vs, o, hc, hl => by
    unfold Row
    have hc2 : (cur.toList.drop o).take ((vs.length + 1) * 4) = cell4 v ++ cellsJ vs := by rw [List.length_cons] at hc; rw [hc]; simp [cellsJ]
    have hi : ∀ i, i < 4 → cur[o + i]? = (cell4 v)[i]? := fun i hi => by
      have h1 : ((cur.toList.drop o).take ((vs.length + 1) * 4))[i]? = cur[o + i]? := by rw [List.getElem?_take_of_lt (by omega), List.getElem?_drop, Array.getElem?_toList]
      rw [← h1, hc2, List.getElem?_append_left hi]
    have hcl : ∀ i, i < 4 → w.cell? ⟨g, o + i, none⟩ = (cell4 v)[i]? := fun i h => by
      rw [← hi i h]
      simp [World.cell?, hh]
    refine ⟨⟨hcl 0 (by decide), hcl 1 (by decide), hcl 2 (by decide), hcl 3 (by decide)⟩, hl v (by simp), ?_⟩
    refine row_at hh vs (o + 4) ?_ (fun x hx => hl x (List.mem_cons_of_mem _ hx))
    have h4 : ((cur.toList.drop o).take ((vs.length + 1) * 4)).drop 4 = cellsJ vs := by rw [hc2]; exact List.drop_left' rfl
    rw [← h4, List.drop_take, List.drop_drop]
    congr 1
    omega
/-- a tuple of texts lies there -/
theorem lies_wide {B : Nat} {w : World} {a : Option Addr} {c cap : Nat} {s : ByteArray} (h : OwnV B (.slice a c cap) (List.replicate c (kV s)) w) (hs : s.size ≤ 1000000) (hc : c ≤ 100) : Lies (· < w.heap.size) w (vW a cap c s) := by
  have hlen : (List.replicate c (kV s)).length = c := List.length_replicate ..
  rcases h.2 with ⟨e, e0⟩ | ⟨g, cap', cur, e, hg, hh, h1, h2, h3, h4⟩
  · rw [hlen] at e0
    subst e0
    cases e
    exact lies_leaf _ _ _ (wd_s _ (by decide)) (wd_s _ (by decide)) (by show (0 : Nat) ≤ maxLen; unfold maxLen; omega)
  · simp only [Value.slice.injEq] at e
    obtain ⟨rfl, _, rfl⟩ := e
    rw [hlen] at h1
    refine Lies.of ⟨wd_s _ (show -100000 ≤ (4 : Int) ∧ (4 : Int) ≤ 100000 by decide), wd_s _ (show -100000 ≤ (0 : Int) ∧ (0 : Int) ≤ 100000 by decide), by show (0 : Nat) ≤ maxLen; unfold maxLen; omega, ?_, h2⟩ (.inr ⟨g, 0, rfl, (Array.getElem?_eq_some_iff.1 hh).1, ?_⟩)
    · show (List.replicate c (kV s)).length ≤ cap
      rw [hlen]; exact h1
    · refine row_at hh _ 0 (by rw [List.drop_zero]; exact h4) (fun x hx => ?_)
      obtain rfl := (List.mem_replicate.1 hx).2
      exact lies_leaf _ _ _ (wd_s _ (by decide)) (wd_s _ (by decide)) (by unfold maxLen; omega)
/-- texts of zeros -/
def zS (n : Nat) : ByteArray := Fw.sv (List.replicate n 0)
theorem zS_size (n : Nat) : (zS n).size = n := by unfold zS; rw [Fw.sv_size, List.length_replicate]
theorem mk_bytes (n : Nat) (hn : n ≤ 1000000) (w : World) : (Instr.makeSlice 29 (.int .i64 (n : Int)) (.int .i64 (n : Int))).run Tryd.prog w = .ok (.slice (some ⟨w.heap.size, 0, none⟩) n n) (w.alloc (.cells (cells (List.replicate n 0)).toArray 5)) := by
  obtain ⟨i0, hi, hz0, hz1, hz2⟩ := info_parts Fw.info8
  have h := run_makeSlice (P := Tryd.prog) w 29 5 i0 (.int .u8 0) Tryd.underlying29 hi hz0 .i64 .i64 (n : Int) (n : Int) (by omega) (Int.le_refl _) (by rw [hz1]; simp; omega) (by rw [hz2]; omega) (by omega)
  rw [hz1] at h
  simp only [Int.toNat_natCast, Nat.mul_one] at h
  have e : madeCells (Value.int .u8 0).cells n = (cells (List.replicate n 0)).toArray := by
    apply Array.ext
    · rw [size_madeCells]; simp [cells]
    · intro i h1 h2
      simp [madeCells, cells, Value.cells, Nat.mod_one]
  rw [h, e]
theorem zS_conv (n : Nat) (h0 : 0 < n) (hn : n ≤ 1000000) (w : World) : (convert 29 9 (.slice (some ⟨w.heap.size, 0, none⟩) n n)).run Tryd.prog (w.alloc (.cells (cells (List.replicate n 0)).toArray 5)) = .ok (.string (zS n)) (w.alloc (.cells (cells (List.replicate n 0)).toArray 5)) := by
  have hl : (List.replicate n 0).length = n := List.length_replicate ..
  have hcl : (cells (List.replicate n 0)).length = n := by simp [cells]
  have ho : Fw.Own w.heap.size (.slice (some ⟨w.heap.size, 0, none⟩) (List.replicate n 0).length n) (List.replicate n 0) (w.alloc (.cells (cells (List.replicate n 0)).toArray 5)) := by
    refine ⟨by rw [hcl, hl, Nat.mul_one], .inr ⟨w.heap.size, n, (cells (List.replicate n 0)).toArray, rfl, Nat.le_refl _, World.alloc_heap_new w _, (by rw [hl]; exact Nat.le_refl _), by unfold maxLen; omega, by simp [hcl], ?_⟩⟩
    rw [hl, List.take_of_length_le (by simp [hcl])]
  have := Fw.own_conv ho (by rw [hl]; exact h0)
  rw [hl] at this
  exact this
end Go.Proofs.YtpacjcgpeomnaaaDoor
