/- Trees of values: what they are, how they lie in memory. -/
import Derived.Test.YtpacjcgpeomnaaaDoorFw
namespace Go.Proofs.YtpacjcgpeomnaaaDoor
open Go.ChangeShapes Go.WideShapes Go.ChangeAt Go.RowKit
set_option linter.unusedVariables false

/-- a value, with the place of its parts -/
inductive V where
  | mk (k n : Int) (t : ByteArray) (a : Option Addr) (cap : Nat) (ks : List V)
def V.k : V → Int | .mk k _ _ _ _ _ => k
def V.n : V → Int | .mk _ n _ _ _ _ => n
def V.t : V → ByteArray | .mk _ _ t _ _ _ => t
def V.a : V → Option Addr | .mk _ _ _ a _ _ => a
def V.cap : V → Nat | .mk _ _ _ _ c _ => c
def V.ks : V → List V | .mk _ _ _ _ _ l => l
theorem V.ind {P : V → Prop} (h : ∀ k n t a cap ks, (∀ x ∈ ks, P x) → P (.mk k n t a cap ks)) (v : V) : P v :=
  V.rec (motive_1 := P) (motive_2 := fun l => ∀ x ∈ l, P x) (fun k n t a cap ks ih => h k n t a cap ks ih) (fun x hx => by cases hx) (fun v vs hv hvs x hx => by
    rcases List.mem_cons.1 hx with e | hx
    · rw [e]; exact hv
    · exact hvs x hx) v
/-- its cells -/
def V.cells (v : V) : List Value := [.int .i64 v.k, .int .i64 v.n, .string v.t, .slice v.a v.ks.length v.cap]
/-- the value itself -/
def V.val (v : V) : Value := .agg #[.int .i64 v.k, .int .i64 v.n, .string v.t, .slice v.a v.ks.length v.cap]
def cellsV (l : List V) : List Value := l.flatMap V.cells
/-- an integer of the machine -/
def Wd (n : Int) : Prop := -9223372036854775808 ≤ n ∧ n ≤ 9223372036854775807
/-- a value that the machine can have, whatever its parts are -/
def V.Ok (v : V) : Prop := Wd v.k ∧ Wd v.n ∧ v.t.size ≤ maxLen ∧ v.ks.length ≤ v.cap ∧ v.cap ≤ maxLen
def At4 (w : World) (g o : Nat) (v : V) : Prop := w.cell? ⟨g, o, none⟩ = some (.int .i64 v.k) ∧ w.cell? ⟨g, o + 1, none⟩ = some (.int .i64 v.n) ∧ w.cell? ⟨g, o + 2, none⟩ = some (.string v.t) ∧ w.cell? ⟨g, o + 3, none⟩ = some (.slice v.a v.ks.length v.cap)
mutual
/-- a value lies in memory: its parts in blocks of F -/
def Lies (F : Nat → Prop) (w : World) : V → Prop
  | .mk k n t a cap ks => V.Ok (.mk k n t a cap ks) ∧ (ks = [] ∨ ∃ g o, a = some ⟨g, o, none⟩ ∧ F g ∧ Row F w g o ks)
def Row (F : Nat → Prop) (w : World) (g : Nat) : Nat → List V → Prop
  | _, [] => True
  | o, v :: vs => At4 w g o v ∧ Lies F w v ∧ Row F w g (o + 4) vs
end
theorem Lies.ok {F : Nat → Prop} {w : World} : ∀ {v : V}, Lies F w v → v.Ok
  | .mk _ _ _ _ _ _, h => by unfold Lies at h; exact h.1
theorem Lies.row {F : Nat → Prop} {w : World} : ∀ {v : V}, Lies F w v → v.ks = [] ∨ ∃ g o, v.a = some ⟨g, o, none⟩ ∧ F g ∧ Row F w g o v.ks
  | .mk _ _ _ _ _ _, h => by unfold Lies at h; exact h.2
theorem Lies.of {F : Nat → Prop} {w : World} : ∀ {v : V}, v.Ok → (v.ks = [] ∨ ∃ g o, v.a = some ⟨g, o, none⟩ ∧ F g ∧ Row F w g o v.ks) → Lies F w v
  | .mk _ _ _ _ _ _, h, k => by unfold Lies; exact ⟨h, k⟩
theorem At4.same {w w' : World} {g o : Nat} {v : V} (h : At4 w g o v) (hg : w'.heap[g]? = w.heap[g]?) : At4 w' g o v :=
  ⟨(World.cell?_of_block (w := w) (a := ⟨g, o, none⟩) hg).trans h.1, (World.cell?_of_block (w := w) (a := ⟨g, o + 1, none⟩) hg).trans h.2.1, (World.cell?_of_block (w := w) (a := ⟨g, o + 2, none⟩) hg).trans h.2.2.1, (World.cell?_of_block (w := w) (a := ⟨g, o + 3, none⟩) hg).trans h.2.2.2⟩
mutual
theorem Lies.same {F G : Nat → Prop} {w w' : World} (hw : ∀ q, F q → w'.heap[q]? = w.heap[q]?) (hFG : ∀ q, F q → G q) : ∀ {v : V}, Lies F w v → Lies G w' v
  | .mk k n t a cap ks, h => by
    unfold Lies at h ⊢
    refine ⟨h.1, ?_⟩
    rcases h.2 with e | ⟨g, o, e, hg, hr⟩
    · exact .inl e
    · exact .inr ⟨g, o, e, hFG g hg, Row.same hw hFG hg hr⟩
theorem Row.same {F G : Nat → Prop} {w w' : World} (hw : ∀ q, F q → w'.heap[q]? = w.heap[q]?) (hFG : ∀ q, F q → G q) {g : Nat} (hg : F g) : ∀ {o : Nat} {l : List V}, Row F w g o l → Row G w' g o l
  | _, [], _ => by unfold Row; trivial
  | o, v :: vs, h => by
    unfold Row at h ⊢
    exact ⟨h.1.same (hw g hg), Lies.same hw hFG h.2.1, Row.same hw hFG hg h.2.2⟩
end
theorem Lies.below {n : Nat} {w w' : World} {v : V} (h : Lies (· < n) w v) (hb : Below n w w') : Lies (· < n) w' v := Lies.same (fun q hq => hb.block q hq) (fun _ h => h) h
theorem Lies.mono {F G : Nat → Prop} {w : World} {v : V} (h : Lies F w v) (hFG : ∀ q, F q → G q) : Lies G w v := Lies.same (fun _ _ => rfl) hFG h
theorem Row.get {F : Nat → Prop} {w : World} {g : Nat} : ∀ {o : Nat} {l : List V}, Row F w g o l → ∀ (i : Nat) (h : i < l.length), At4 w g (o + 4 * i) l[i] ∧ Lies F w l[i]
  | _, [], _, i, h => by simp at h
  | o, v :: vs, hr, i, h => by
    unfold Row at hr
    cases i with
    | zero => exact ⟨hr.1, hr.2.1⟩
    | succ j =>
      have := Row.get hr.2.2 j (by simpa using h)
      rw [show o + 4 * (j + 1) = o + 4 + 4 * j by omega]
      exact this
theorem Row.of_get {F : Nat → Prop} {w : World} {g : Nat} : ∀ {o : Nat} {l : List V}, (∀ (i : Nat) (h : i < l.length), At4 w g (o + 4 * i) l[i] ∧ Lies F w l[i]) → Row F w g o l
  | _, [], _ => by unfold Row; trivial
  | o, v :: vs, h => by
    unfold Row
    refine ⟨(h 0 (by simp)).1, (h 0 (by simp)).2, Row.of_get fun i hi => ?_⟩
    have := h (i + 1) (by simpa using hi)
    rw [show o + 4 + 4 * i = o + 4 * (i + 1) by omega]
    exact this
/-- a value, without the place of its parts -/
inductive T where
  | mk (k n : Int) (t : ByteArray) (ks : List T)
def T.k : T → Int | .mk k _ _ _ => k
def T.n : T → Int | .mk _ n _ _ => n
def T.t : T → ByteArray | .mk _ _ t _ => t
def T.ks : T → List T | .mk _ _ _ l => l
theorem T.eta : ∀ x : T, x = .mk x.k x.n x.t x.ks | .mk _ _ _ _ => rfl
theorem T.ind {P : T → Prop} (h : ∀ k n t ks, (∀ x ∈ ks, P x) → P (.mk k n t ks)) (v : T) : P v :=
  T.rec (motive_1 := P) (motive_2 := fun l => ∀ x ∈ l, P x) (fun k n t ks ih => h k n t ks ih) (fun x hx => by cases hx) (fun v vs hv hvs x hx => by
    rcases List.mem_cons.1 hx with e | hx
    · rw [e]; exact hv
    · exact hvs x hx) v
mutual
def er : V → T | .mk k n t _ _ ks => .mk k n t (ers ks)
def ers : List V → List T | [] => [] | v :: vs => er v :: ers vs
end
theorem ers_map : ∀ l : List V, ers l = l.map er | [] => by unfold ers; rfl | v :: vs => by unfold ers; rw [ers_map vs]; rfl
theorem er_eq : ∀ v : V, er v = .mk v.k v.n v.t (v.ks.map er) | .mk _ _ _ _ _ ks => by unfold er; rw [ers_map]; rfl
theorem er_k (v : V) : (er v).k = v.k := by rw [er_eq]; rfl
theorem er_n (v : V) : (er v).n = v.n := by rw [er_eq]; rfl
theorem er_t (v : V) : (er v).t = v.t := by rw [er_eq]; rfl
theorem er_ks (v : V) : (er v).ks = v.ks.map er := by rw [er_eq]; rfl
mutual
/-- how many parts -/
def T.cnt : T → Nat | .mk _ _ _ ks => 1 + T.cnts ks
def T.cnts : List T → Nat | [] => 0 | v :: vs => T.cnt v + T.cnts vs
end
mutual
/-- how deep -/
def T.ht : T → Nat | .mk _ _ _ ks => 1 + T.hts ks
def T.hts : List T → Nat | [] => 0 | v :: vs => max (T.ht v) (T.hts vs)
end
mutual
/-- a value and its parts, each ahead of its own ones, and how deep it stands -/
def T.pre (d : Nat) : T → List (Nat × T) | .mk k n t ks => (d, .mk k n t ks) :: T.pres (d + 1) ks
def T.pres (d : Nat) : List T → List (Nat × T) | [] => [] | v :: vs => T.pre d v ++ T.pres d vs
end
mutual
def V.pre (d : Nat) : V → List (Nat × V) | .mk k n t a cap ks => (d, .mk k n t a cap ks) :: V.pres (d + 1) ks
def V.pres (d : Nat) : List V → List (Nat × V) | [] => [] | v :: vs => V.pre d v ++ V.pres d vs
end
def erP (x : Nat × V) : Nat × T := (x.1, er x.2)
theorem T.pre_eq (d : Nat) : ∀ v : T, v.pre d = (d, v) :: T.pres (d + 1) v.ks | .mk _ _ _ _ => by unfold T.pre; rfl
theorem V.pre_eq (d : Nat) : ∀ v : V, v.pre d = (d, v) :: V.pres (d + 1) v.ks | .mk _ _ _ _ _ _ => by unfold V.pre; rfl
mutual
theorem V.pre_er : ∀ (d : Nat) (v : V), (v.pre d).map erP = (er v).pre d
  | d, .mk k n t a cap ks => by unfold V.pre er T.pre; rw [List.map_cons, V.pres_er (d + 1) ks]; unfold erP er; rfl
theorem V.pres_er : ∀ (d : Nat) (l : List V), (V.pres d l).map erP = T.pres d (ers l)
  | d, [] => by unfold V.pres ers T.pres; rfl
  | d, v :: vs => by unfold V.pres ers T.pres; rw [List.map_append, V.pre_er d v, V.pres_er d vs]
end
mutual
theorem T.pre_len : ∀ (d : Nat) (v : T), (v.pre d).length = v.cnt
  | d, .mk k n t ks => by unfold T.pre T.cnt; rw [List.length_cons, T.pres_len (d + 1) ks]; omega
theorem T.pres_len : ∀ (d : Nat) (l : List T), (T.pres d l).length = T.cnts l
  | d, [] => by unfold T.pres T.cnts; rfl
  | d, v :: vs => by unfold T.pres T.cnts; rw [List.length_append, T.pre_len d v, T.pres_len d vs]
end
theorem T.cnt_eq : ∀ v : T, v.cnt = 1 + T.cnts v.ks | .mk _ _ _ _ => by unfold T.cnt; rfl
theorem T.ht_eq : ∀ v : T, v.ht = 1 + T.hts v.ks | .mk _ _ _ _ => by unfold T.ht; rfl
theorem T.cnts_ge : ∀ l : List T, l.length ≤ T.cnts l
  | [] => by simp
  | v :: vs => by have := T.cnts_ge vs; have h2 := T.cnt_eq v; unfold T.cnts; rw [List.length_cons]; omega
theorem T.hts_ge : ∀ (l : List T), ∀ x ∈ l, x.ht ≤ T.hts l
  | [], _, h => by cases h
  | v :: vs, x, h => by
    unfold T.hts
    rcases List.mem_cons.1 h with rfl | h
    · omega
    · have := T.hts_ge vs x h; omega
theorem V.pre_len (d : Nat) (v : V) : (v.pre d).length = (er v).cnt := by rw [← T.pre_len d, ← V.pre_er, List.length_map]
mutual
theorem V.pre_in {F : Nat → Prop} {w : World} : ∀ {d : Nat} {v : V}, Lies F w v → ∀ x ∈ v.pre d, d ≤ x.1 ∧ x.1 < d + (er v).ht ∧ x.2.Ok
  | d, .mk k n t a cap ks, h, x, hx => by
    unfold V.pre at hx
    unfold er
    rw [T.ht]
    have h2 := h.ok
    have h3 := h.row
    rcases List.mem_cons.1 hx with rfl | hx
    · exact ⟨Nat.le_refl _, by show d < _; omega, h2⟩
    · rcases h3 with e | ⟨g, o, e, hg, hr⟩
      · have e : ks = [] := e
        subst e
        unfold V.pres at hx
        cases hx
      · have hr : Row F w g o ks := hr
        have := V.pres_in hr x hx
        exact ⟨by omega, by omega, this.2.2⟩
theorem V.pres_in {F : Nat → Prop} {w : World} {g : Nat} : ∀ {o d : Nat} {l : List V}, Row F w g o l → ∀ x ∈ V.pres d l, d ≤ x.1 ∧ x.1 < d + T.hts (ers l) ∧ x.2.Ok
  | o, d, [], h, x, hx => by unfold V.pres at hx; cases hx
  | o, d, v :: vs, h, x, hx => by
    unfold Row at h
    unfold V.pres at hx
    unfold ers
    rw [T.hts]
    rcases List.mem_append.1 hx with hx | hx
    · have := V.pre_in h.2.1 x hx
      exact ⟨this.1, by omega, this.2.2⟩
    · have := V.pres_in h.2.2 x hx
      exact ⟨this.1, by omega, this.2.2⟩
end
end Go.Proofs.YtpacjcgpeomnaaaDoor
