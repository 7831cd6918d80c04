/- A value's text. -/
import Derived.Test.YtpacjcgpeomnaaaDoorValQ
import Derived.Lib.SmallJoins
namespace Go.Proofs.YtpacjcgpeomnaaaDoor
open Go.ChangeShapes Go.WideShapes Go.ChangeAt Go.RowKit
open Go.Proofs.YtpacjcgpeomnaaaDoor.Fw (zz vb bytesOf cells)
open Go.Proofs.YtpacjcgpeomnaaaDoor.Fd (st st_size)
set_option linter.unusedVariables false
set_option maxRecDepth 20000

def tU (l : List Nat) : List UInt8 := l.map UInt8.ofNat
theorem sv_st (l : List Nat) (h : ∀ b ∈ l, b < 256) : Fw.sv l = st (tU l) := by
  unfold Fw.sv strOfNums st tU
  congr 1
  rw [List.map_map]
  congr 1
def hexU (x : Nat) : List UInt8 := (Fn.hexNums x).map fun n => UInt8.ofNat n.toNat
theorem hex_st (x : Nat) : strOfNums (Fn.hexNums x) = st (hexU x) := rfl
mutual
/-- as people read it -/
def textT : T → List UInt8
  | .mk k n t ks => if k = 0 then Lib.itoa (Fd.w63 n) else if k = 1 then hexU (beN t.data.toList) else if k = 2 then tU (quoteN (bytesOf t))
    else if k = 3 then (67 :: Lib.itoa (Fd.w63 n)) ++ (if ks.length = 0 then [] else 40 :: Lib.join (textsT ks) [44] ++ [41])
    else if k = 4 then 40 :: Lib.join (textsT ks) [44] ++ [41] else if k = 5 then 64 :: Lib.itoa (Fd.w63 n) else [40, 41]
def textsT : List T → List (List UInt8)
  | [] => []
  | v :: vs => textT v :: textsT vs
end
def listT (l : List T) : List UInt8 := 40 :: Lib.join (l.map textT) [44] ++ [41]
theorem texts_map : ∀ l : List T, textsT l = l.map textT
  | [] => by rw [textsT]; rfl
  | v :: vs => by rw [textsT, texts_map vs]; rfl
theorem text_eq (k n : Int) (t : ByteArray) (ks : List T) : textT (.mk k n t ks) = if k = 0 then Lib.itoa (Fd.w63 n) else if k = 1 then hexU (beN t.data.toList) else if k = 2 then tU (quoteN (bytesOf t))
    else if k = 3 then (67 :: Lib.itoa (Fd.w63 n)) ++ (if ks.length = 0 then [] else listT ks)
    else if k = 4 then listT ks else if k = 5 then 64 :: Lib.itoa (Fd.w63 n) else [40, 41] := by
  rw [textT, texts_map]; rfl
/-- all its parts are in form -/
def InF (v : T) : Prop := ∀ x ∈ v.pre 0, formB x.2 = true
theorem pre_shift : ∀ (d e : Nat) (v : T) (x : Nat × T), x ∈ v.pre d → ∃ y ∈ v.pre e, y.2 = x.2 := by
  have key : ∀ (l : List T), (∀ v ∈ l, ∀ (d e : Nat) (x : Nat × T), x ∈ v.pre d → ∃ y ∈ v.pre e, y.2 = x.2) → ∀ (d e : Nat) (x : Nat × T), x ∈ T.pres d l → ∃ y ∈ T.pres e l, y.2 = x.2 := by
    intro l
    induction l with
    | nil => intro _ d e x hx; unfold T.pres at hx; cases hx
    | cons v vs ih =>
      intro h d e x hx
      have e1 : ∀ d, T.pres d (v :: vs) = T.pre d v ++ T.pres d vs := fun d => by conv => lhs; unfold T.pres
      rw [e1] at hx
      rw [e1]
      rcases List.mem_append.1 hx with hx | hx
      · obtain ⟨y, hy, hy2⟩ := h v (by simp) d e x hx
        exact ⟨y, List.mem_append_left _ hy, hy2⟩
      · obtain ⟨y, hy, hy2⟩ := ih (fun u hu => h u (List.mem_cons_of_mem _ hu)) d e x hx
        exact ⟨y, List.mem_append_right _ hy, hy2⟩
  intro d e v
  induction v using T.ind generalizing d e with
  | h k n t ks ih =>
    intro x hx
    rw [T.pre_eq] at hx ⊢
    rcases List.mem_cons.1 hx with rfl | hx
    · exact ⟨_, List.mem_cons_self, rfl⟩
    · obtain ⟨y, hy, hy2⟩ := key ks (fun v hv d e x hx => ih v hv d e x hx) (d + 1) (e + 1) x hx
      exact ⟨y, List.mem_cons_of_mem _ hy, hy2⟩
theorem InF.self {v : T} (h : InF v) : formB v = true := h (0, v) (by rw [T.pre_eq]; exact List.mem_cons_self)
theorem pres_in : ∀ (l : List T) (d : Nat) (v : T), v ∈ l → ∀ x ∈ v.pre d, x ∈ T.pres d l
  | [], _, _, h => by cases h
  | u :: us, d, v, h => fun x hx => by
    conv => rhs; unfold T.pres
    rcases List.mem_cons.1 h with rfl | h
    · exact List.mem_append_left _ hx
    · exact List.mem_append_right _ (pres_in us d v h x hx)
theorem InF.kid {v : T} (h : InF v) {x : T} (hx : x ∈ v.ks) : InF x := fun y hy => by
  obtain ⟨z, hz, hz2⟩ := pre_shift 0 1 x y hy
  rw [← hz2]
  refine h z ?_
  rw [T.pre_eq]
  exact List.mem_cons_of_mem _ (pres_in _ _ _ hx z hz)
theorem InF.of_chk {v : T} (h : chk v = 0) : InF v := fun x hx => by
  unfold chk at h
  by_cases hr : rightB (v.pre 1) = false
  · rw [if_pos hr] at h; cases h
  · have hr : rightB (v.pre 1) = true := by simpa using hr
    obtain ⟨y, hy, hy2⟩ := pre_shift 0 1 v x hx
    unfold rightB at hr
    have := List.all_eq_true.1 hr y hy
    rw [Bool.and_eq_true, hy2] at this
    exact this.2
theorem cnts_map (l : List V) : T.cnts (l.map er) = T.cnts (ers l) := by rw [ers_map]
theorem form_casesT {v : T} (h : formB v = true) : (v.k = 1 → v.t.size = 8) ∧ (v.k = 2 → v.t.size ≤ 4096) ∧ v.ks.length ≤ 8 := by
  obtain ⟨k, n, t, ks⟩ := v
  unfold formB at h
  simp only [T.k, T.n, T.t, T.ks] at h ⊢
  by_cases h0 : k = 0
  · subst h0
    simp at h
    exact ⟨fun e => by omega, fun e => by omega, by have := h.2; simp [this]⟩
  by_cases h1 : k = 1
  · subst h1
    simp [floB] at h
    exact ⟨fun _ => h.1.2.1, fun e => by omega, by have := h.2; simp [this]⟩
  by_cases h2 : k = 2
  · subst h2
    simp at h
    exact ⟨fun e => by omega, fun _ => of_decide_eq_true h.1.2, by have := h.2; simp [this]⟩
  by_cases h3 : k = 3
  · subst h3
    simp at h
    exact ⟨fun e => by omega, fun e => by omega, of_decide_eq_true h.2⟩
  by_cases h4 : k = 4
  · subst h4
    simp at h
    exact ⟨fun e => by omega, fun e => by omega, of_decide_eq_true h.2⟩
  by_cases h5 : k = 5
  · subst h5
    simp at h
    exact ⟨fun e => by omega, fun e => by omega, by have := h.2; simp [this]⟩
  by_cases h6 : k = 6
  · subst h6
    simp at h
    exact ⟨fun e => by omega, fun e => by omega, by have := h.2; simp [this]⟩
  simp only [h0, h1, h2, h3, h4, h5, h6, if_false] at h
  cases h
theorem quote_len (l : List Nat) : (quoteN l).length ≤ 4 * l.length + 2 := by
  unfold quoteN
  have := qs_len l
  rw [List.length_append, List.length_cons]
  simp only [List.length_cons, List.length_nil]
  omega
theorem join_len (sep : List UInt8) : ∀ l : List (List UInt8), (Lib.join l sep).length ≤ (l.map List.length).sum + l.length * sep.length
  | [] => by simp [Lib.join, List.intercalate]
  | [x] => by rw [Lib.join_one]; simp
  | x :: y :: l => by
    have h := join_len sep (y :: l)
    have e : Lib.join (x :: y :: l) sep = x ++ sep ++ Lib.join (y :: l) sep := by simp [Lib.join, List.intercalate]
    rw [e, List.length_append, List.length_append]
    simp only [List.map_cons, List.sum_cons, List.length_cons, Nat.add_mul] at h ⊢
    omega
theorem list_len (l : List T) (h8 : l.length ≤ 8) (h : ∀ x ∈ l, (textT x).length ≤ 20000 * x.cnt) : (listT l).length ≤ 20000 * T.cnts l + 20 := by
  have h1 := join_len [44] (l.map textT)
  have h2 : ∀ l : List T, (∀ x ∈ l, (textT x).length ≤ 20000 * x.cnt) → ((l.map textT).map List.length).sum ≤ 20000 * T.cnts l := by
    intro l
    induction l with
    | nil => intro _; simp
    | cons v vs ih =>
      intro h
      have := h v (by simp)
      have h3 := ih (fun x hx => h x (List.mem_cons_of_mem _ hx))
      rw [cnts_cons]
      simp only [List.map_cons, List.sum_cons]
      omega
  have h3 := h2 l h
  unfold listT
  rw [List.length_append, List.length_cons]
  simp only [List.length_map, List.length_cons, List.length_nil] at h1 ⊢
  omega
theorem text_len (v : T) : InF v → (textT v).length ≤ 20000 * v.cnt := by
  induction v using T.ind with
  | h k n t ks ih =>
    intro h
    obtain ⟨f1, f2, f3⟩ := form_casesT h.self
    have f1 : k = 1 → t.size = 8 := f1
    have f2 : k = 2 → t.size ≤ 4096 := f2
    have f3 : ks.length ≤ 8 := f3
    have hI := Fd.itoa_len (Fd.w63 n) (Fd.w63_lo n) (Fd.w63_hi n)
    have hl := list_len ks f3 (fun x hx => ih x hx (h.kid hx))
    have hc : T.cnt (.mk k n t ks) = 1 + T.cnts ks := T.cnt_eq _
    rw [text_eq, hc]
    split
    · omega
    · split
      · unfold hexU; rw [List.length_map, Fn.hexNums_len]; omega
      · split
        · rename_i e
          have := f2 e
          have h2 := quote_len (bytesOf t)
          unfold tU
          rw [List.length_map]
          rw [Fw.bytesOf_len] at h2
          omega
        · split
          · rw [List.length_append, List.length_cons]
            split
            · simp; omega
            · omega
          · split
            · omega
            · split
              · rw [List.length_cons]; omega
              · simp; omega
end Go.Proofs.YtpacjcgpeomnaaaDoor
