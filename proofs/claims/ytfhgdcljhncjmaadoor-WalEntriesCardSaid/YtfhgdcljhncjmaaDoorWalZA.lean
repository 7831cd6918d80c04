/- What acts leave of a log, done or broken off. -/
import Derived.Test.YtfhgdcljhncjmaaDoorWalZ
namespace Go.Proofs.YtfhgdcljhncjmaaDoor
open Go.ChangeShapes Go.WideShapes Go.ChangeAt Go.RowKit
set_option linter.unusedVariables false
set_option maxRecDepth 20000

theorem sb_set_same {ns : List ByteArray} {i : Nat} (hi : i < ns.length) (M : List Nat) (hM : ∀ b ∈ M, b < 256) : sb (ns.set i (sec M)) i = padL M := by
  unfold sb
  have e : (ns.set i (sec M)).getD i ByteArray.empty = sec M := by simp [List.getD, hi]
  rw [e]
  exact bytesOf_sec M hM
theorem sb_set_ne {ns : List ByteArray} {i q : Nat} (h : q ≠ i) (s : ByteArray) : sb (ns.set i s) q = sb ns q := by
  unfold sb
  have e : (ns.set i s).getD q ByteArray.empty = ns.getD q ByteArray.empty := by
    simp only [List.getD]
    rw [List.getElem?_set_ne (Ne.symm h)]
  rw [e]
theorem full_set {ns : List ByteArray} (h : Full ns) (i : Nat) (s : ByteArray) (hs : s.size = 512) : Full (ns.set i s) := fun x hx => by
  rcases List.mem_or_eq_of_mem_set hx with h1 | h1
  · exact h x h1
  · rw [h1]; exact hs
theorem head_bytes (a : Int) : ∀ b ∈ headL a, b < 256 := head_byte a
/-- the writes of a record's parts -/
def partW (p : Nat) (b : List Nat) (j : Nat) : Nat × ByteArray := (p + 1 + j, sec (partL (chunk b j)))
theorem wrs_range (p : Nat) (b : List Nat) : ∀ n, wrs p b 0 (List.range n) = ((List.range n).map (partW p b)).map some
  | 0 => rfl
  | n + 1 => by
    rw [List.range_succ, wrs_snoc, wrs_range p b n, List.map_append, List.map_append, List.length_range, Nat.zero_add]
    rfl
theorem acts_list : ∀ (l : List (Nat × ByteArray)) {s s' : Dst} {ok : Bool}, acts s (l.map some) = (s', ok) → s'.ls = s.ls ∧ s'.ar = s.ar ∧ (ok = true → s'.W = s.W ++ l ∧ s'.off = s.off) ∧ ∀ y ∈ s'.W, y ∈ s.W ∨ y ∈ l
  | [], s, s', ok, h => by
    have h1 : s = s' := congrArg Prod.fst h
    subst h1
    exact ⟨rfl, rfl, fun _ => ⟨by simp, rfl⟩, fun y hy => .inl hy⟩
  | x :: t, s, s', ok, h => by
    obtain ⟨s1, ok1, r1⟩ : ∃ s1 ok1, act1 s (some x) = (s1, ok1) := ⟨_, _, rfl⟩
    rw [List.map_cons] at h
    by_cases hd : s.off = true ∨ (s.ar = true ∧ s.le = 0)
    · have e : act1 s (some x) = ({ s with off := true }, false) := if_pos hd
      rw [acts_cons_no e] at h
      obtain rfl : _ = s' := congrArg Prod.fst h
      obtain rfl : false = ok := congrArg Prod.snd h
      exact ⟨rfl, rfl, fun h => (by cases h), fun y hy => .inl hy⟩
    · have e : act1 s (some x) = ({ s with W := s.W ++ [x], le := if s.ar = true then s.le - 1 else s.le }, true) := if_neg hd
      rw [acts_cons_ok e] at h
      obtain ⟨h1, h2, h3, h4⟩ := acts_list t h
      refine ⟨h1, h2, fun ho => ?_, fun y hy => ?_⟩
      · obtain ⟨h5, h6⟩ := h3 ho
        exact ⟨by rw [h5]; simp, h6⟩
      · rcases h4 y hy with h5 | h5
        · rcases List.mem_append.1 h5 with h6 | h6
          · exact .inl h6
          · exact .inr (List.mem_cons.2 (.inl (List.mem_singleton.1 h6)))
        · exact .inr (List.mem_cons.2 (.inr h5))
theorem act_some (s : Dst) (x : Nat × ByteArray) : act1 s (some x) = ({ s with off := true }, false) ∨ act1 s (some x) = ({ s with W := s.W ++ [x], le := if s.ar = true then s.le - 1 else s.le }, true) := by
  by_cases hd : s.off = true ∨ (s.ar = true ∧ s.le = 0)
  · exact .inl (if_pos hd)
  · exact .inr (if_neg hd)
theorem act_none (s : Dst) : act1 s none = ({ s with off := true }, false) ∨ act1 s none = ({ s with ls := s.now, W := [], le := if s.ar = true then s.le - 1 else s.le }, true) := by
  by_cases hd : s.off = true ∨ (s.ar = true ∧ s.le = 0)
  · exact .inl (if_pos hd)
  · exact .inr (if_neg hd)
/-- a write that lasts -/
theorem one_acts {s s' : Dst} {ok : Bool} (x : Nat × ByteArray) (hW : s.W = []) (h : acts s [some x, none] = (s', ok)) :
    (ok = true → s'.W = [] ∧ s'.ls = s.ls.set x.1 x.2 ∧ s'.ar = s.ar ∧ s'.off = s.off) ∧ (ok = false → s'.ls = s.ls ∧ ∀ y ∈ s'.W, y = x) := by
  rcases act_some s x with e | e
  · rw [acts_cons_no e] at h
    obtain rfl : _ = s' := congrArg Prod.fst h
    obtain rfl : false = ok := congrArg Prod.snd h
    exact ⟨fun h => by (cases h), fun _ => ⟨rfl, fun y hy => by rw [show _ = s.W from rfl, hW] at hy; cases hy⟩⟩
  · rw [acts_cons_ok e] at h
    rcases act_none { s with W := s.W ++ [x], le := if s.ar = true then s.le - 1 else s.le } with e2 | e2
    · rw [acts_cons_no e2] at h
      obtain rfl : _ = s' := congrArg Prod.fst h
      obtain rfl : false = ok := congrArg Prod.snd h
      refine ⟨fun h => by (cases h), fun _ => ⟨rfl, fun y hy => ?_⟩⟩
      have hy2 : y ∈ s.W ++ [x] := hy
      rw [hW] at hy2
      simpa using hy2
    · rw [acts_cons_ok e2] at h
      obtain rfl : _ = s' := congrArg Prod.fst h
      obtain rfl : true = ok := congrArg Prod.snd h
      refine ⟨fun _ => ⟨rfl, ?_, rfl, rfl⟩, fun h => by (cases h)⟩
      show Fk.setT s.ls (s.W ++ [x]) = _
      rw [hW]; rfl
/-- a barrier, and a write that lasts -/
theorem bar_acts {s s' : Dst} {ok : Bool} (x : Nat × ByteArray) (h : acts s [none, some x, none] = (s', ok)) :
    (ok = true → s'.W = [] ∧ s'.ls = s.now.set x.1 x.2 ∧ s'.ar = s.ar ∧ s'.off = s.off) ∧ (ok = false → (s'.ls = s.ls ∧ s'.W = s.W) ∨ (s'.ls = s.now ∧ ∀ y ∈ s'.W, y = x)) := by
  rcases act_none s with e | e
  · rw [acts_cons_no e] at h
    obtain rfl : _ = s' := congrArg Prod.fst h
    obtain rfl : false = ok := congrArg Prod.snd h
    exact ⟨fun h => by (cases h), fun _ => .inl ⟨rfl, rfl⟩⟩
  · rw [acts_cons_ok e] at h
    obtain ⟨h1, h2⟩ := one_acts x rfl h
    exact ⟨h1, fun ho => .inr (h2 ho)⟩
/-- all that a record's writing does -/
theorem rec_acts {s s' : Dst} {ok : Bool} (l : List (Nat × ByteArray)) (x : Nat × ByteArray) (hW : s.W = []) (h : acts s (l.map some ++ [none, some x, none]) = (s', ok)) :
    (ok = true → s'.W = [] ∧ s'.ls = (Fk.setT s.ls l).set x.1 x.2 ∧ s'.ar = s.ar ∧ s'.off = s.off) ∧ (ok = false → (s'.ls = s.ls ∧ ∀ y ∈ s'.W, y ∈ l) ∨ (s'.ls = Fk.setT s.ls l ∧ ∀ y ∈ s'.W, y = x)) := by
  obtain ⟨s1, ok1, r1⟩ : ∃ s1 ok1, acts s (l.map some) = (s1, ok1) := ⟨_, _, rfl⟩
  obtain ⟨a1, a2, a3, a4⟩ := acts_list l r1
  have hin : ∀ y ∈ s1.W, y ∈ l := fun y hy => by
    rcases a4 y hy with h1 | h1
    · rw [hW] at h1; cases h1
    · exact h1
  cases ok1 with
  | false =>
    rw [acts_append_no _ _ r1] at h
    obtain rfl : s1 = s' := congrArg Prod.fst h
    obtain rfl : false = ok := congrArg Prod.snd h
    exact ⟨fun h => by (cases h), fun _ => .inl ⟨a1, hin⟩⟩
  | true =>
    rw [acts_append_ok _ _ r1] at h
    obtain ⟨a5, a6⟩ := a3 rfl
    have hnow : s1.now = Fk.setT s.ls l := by
      unfold Dst.now
      rw [a1, a5, hW]; rfl
    obtain ⟨b1, b2⟩ := bar_acts x h
    rw [hnow] at b1 b2
    refine ⟨fun ho => ?_, fun ho => ?_⟩
    · obtain ⟨c1, c2, c3, c4⟩ := b1 ho
      exact ⟨c1, c2, by rw [c3, a2], by rw [c4, a6]⟩
    · rcases b2 ho with ⟨c1, c2⟩ | ⟨c1, c2⟩
      · exact .inl ⟨by rw [c1, a1], by rw [c2]; exact hin⟩
      · exact .inr ⟨c1, c2⟩
/-- sectors behind the parts' writes -/
theorem setT_parts {ls : List ByteArray} (hf : Full ls) (p : Nat) (b : List Nat) (hb : ∀ x ∈ b, x < 256) : ∀ n, p + 1 + n ≤ ls.length → (Fk.setT ls ((List.range n).map (partW p b))).length = ls.length ∧ Full (Fk.setT ls ((List.range n).map (partW p b))) ∧ ∀ q, sb (Fk.setT ls ((List.range n).map (partW p b))) q = if p + 1 ≤ q ∧ q < p + 1 + n then padL (partL (chunk b (q - p - 1))) else sb ls q
  | 0, _ => ⟨rfl, hf, fun q => by rw [if_neg (by omega)]; rfl⟩
  | n + 1, h => by
    obtain ⟨h1, h2, h3⟩ := setT_parts hf p b hb n (by omega)
    rw [List.range_succ, List.map_append]
    show (Fk.setT ls ((List.range n).map (partW p b) ++ [(p + 1 + n, sec (partL (chunk b n)))])).length = _ ∧ Full (Fk.setT ls ((List.range n).map (partW p b) ++ [(p + 1 + n, sec (partL (chunk b n)))])) ∧ ∀ q, sb (Fk.setT ls ((List.range n).map (partW p b) ++ [(p + 1 + n, sec (partL (chunk b n)))])) q = _
    rw [setT_snoc]
    have hcl := chunk_len b n
    refine ⟨by rw [List.length_set, h1], full_set h2 _ _ (sec_size _ (by rw [part_len]; omega)), fun q => ?_⟩
    by_cases hq : q = p + 1 + n
    · subst hq
      rw [sb_set_same (by omega) _ (part_byte (chunk_byte hb n)), if_pos (by omega)]
      congr 3; omega
    · rw [sb_set_ne hq, h3 q]
      by_cases h5 : p + 1 ≤ q ∧ q < p + 1 + n
      · rw [if_pos h5, if_pos (by omega)]
      · rw [if_neg h5, if_neg (by omega)]
/-- what may last behind a crash -/
def CrashOf (s : Dst) (ns : List ByteArray) : Prop := ns.length = s.ls.length ∧ ∀ i, i < ns.length → ns[i]? = s.ls[i]? ∨ ∃ y ∈ s.W, y.1 = i ∧ ns[i]? = some y.2
theorem sb_of_get {ns ms : List ByteArray} {i : Nat} (h : ns[i]? = ms[i]?) : sb ns i = sb ms i := by
  unfold sb
  have e : ns.getD i ByteArray.empty = ms.getD i ByteArray.empty := by simp only [List.getD, h]
  rw [e]
theorem sb_of_some {ns : List ByteArray} {i : Nat} {M : List Nat} (h : ns[i]? = some (sec M)) (hM : ∀ b ∈ M, b < 256) : sb ns i = padL M := by
  unfold sb
  have e : ns.getD i ByteArray.empty = sec M := by simp only [List.getD, h]; rfl
  rw [e]
  exact bytesOf_sec M hM
theorem crash_full {s : Dst} {ns : List ByteArray} (h : CrashOf s ns) (hf : Full s.ls) (hw : ∀ y ∈ s.W, y.2.size = 512) : Full ns := fun x hx => by
  obtain ⟨i, hi, rfl⟩ := List.getElem_of_mem hx
  have h0 : ns[i]? = some ns[i] := List.getElem?_eq_getElem hi
  rcases h.2 i hi with e | ⟨y, hy, _, e⟩
  · rw [h0] at e
    exact hf _ (List.mem_of_getElem? e.symm)
  · rw [h0] at e
    rw [Option.some.inj e]
    exact hw y hy
section
variable {s s' : Dst} {f en : Nat} {ag : Int} {hd : Nat} {bs : List (List Nat)} {p : Nat}
theorem first_ok (ag : Int) (k n : Nat) (x : Nat) (hag : Fw.IntOk ag) (hk : k ≤ 1000000) (hn : n ≤ 100000) (hx : x < 4294967296) : (firstL ag (k : Int) (n : Int) (x : Int)).length ≤ 512 := first_len _ _ _ _ hag ⟨by omega, by omega⟩ ⟨by omega, by omega⟩ ⟨by omega, by omega⟩
/-- a record that was written lasts; one whose writing was broken off does or doesn't -/
theorem LInv.record (h : LInv s.ls f en ag hd bs p) (hen : en ≤ 1000) (hW : s.W = []) (b : List Nat) (n : Nat) (hn : b.length = n) (hn2 : n ≤ 100000) (hb : ∀ x ∈ b, x < 256) (hfit : p + need n ≤ en) {ok : Bool} (hr : acts s (recActs ag (bs.length : Int) p b) = (s', ok)) :
    (ok = true → s'.W = [] ∧ s'.ar = s.ar ∧ s'.off = s.off ∧ LInv s'.ls f en ag hd (bs ++ [b]) (p + need n)) ∧ (ok = false → ∀ ns, CrashOf s' ns → LInv ns f en ag hd bs p ∨ LInv ns f en ag hd (bs ++ [b]) (p + need n)) := by
  have hlen := h.len
  have hge := h.ge
  have hcnt := h.count
  have hage := h.age
  have hcl := crc_lt b
  have hia : Fw.IntOk ag := by constructor <;> omega
  have hnd := need_parts n
  unfold recActs at hr
  rw [hn, wrs_range] at hr
  obtain ⟨g1, g2⟩ := rec_acts _ _ hW hr
  obtain ⟨t1, t2, t3⟩ := setT_parts h.full p b hb (nparts n) (by omega)
  obtain ⟨ms, hms⟩ : ∃ ms, Fk.setT s.ls ((List.range (nparts n)).map (partW p b)) = ms := ⟨_, rfl⟩
  rw [hms] at g1 g2 t1 t2 t3
  have hfirst := first_ok ag bs.length n (Fc.crcOf b) hia (by omega) hn2 hcl
  have hpart : ∀ q, p < q → q < p + need n → sb ms q = padL (partL (chunk b (q - p - 1))) := fun q q1 q2 => by rw [t3 q, if_pos (by omega)]
  have hsame : ∀ q, q ≤ p ∨ p + need n ≤ q → sb ms q = sb s.ls q := fun q hq => by rw [t3 q, if_neg (by omega)]
  refine ⟨fun ho => ?_, fun ho ns hc => ?_⟩
  · obtain ⟨c1, c2, c3, c4⟩ := g1 ho
    refine ⟨c1, c3, c4, ?_⟩
    rw [c2]
    refine h.more hen (full_set t2 _ _ (sec_size _ hfirst)) (by rw [List.length_set, t1]) b n hn hn2 hfit (sb_set_same (by omega) _ (first_byte _ _ _ _)) (fun j hj => ?_) (fun i hi hio => ?_)
    · rw [sb_set_ne (by omega), hpart _ (by omega) (by omega)]
      congr 3; omega
    · rw [sb_set_ne (show i ≠ p by omega), hsame i (by omega)]
  · rcases g2 ho with ⟨c1, c2⟩ | ⟨c1, c2⟩
    · left
      have hw : ∀ y ∈ s'.W, ∃ j, j < nparts n ∧ y = partW p b j := fun y hy => by
        obtain ⟨j, hj, e⟩ := List.mem_map.1 (c2 y hy)
        exact ⟨j, List.mem_range.1 hj, e.symm⟩
      have hfu : Full ns := crash_full hc (by rw [c1]; exact h.full) fun y hy => by
        obtain ⟨j, hj, rfl⟩ := hw y hy
        exact sec_size _ (by rw [part_len, chunk_len]; omega)
      refine h.parts hfu (by rw [hc.1, c1]) fun i hi => ?_
      rcases hc.2 i (by rw [hc.1, c1]; exact hi) with e | ⟨y, hy, e1, e2⟩
      · left; rw [c1] at e; exact sb_of_get e
      · obtain ⟨j, hj, rfl⟩ := hw y hy
        have e3 : p + 1 + j = i := e1
        exact .inr ⟨by omega, by omega, chunk b j, sb_of_some e2 (part_byte (chunk_byte hb j))⟩
    · have hfu : Full ns := crash_full hc (by rw [c1]; exact t2) fun y hy => by
        rw [c2 y hy]
        exact sec_size _ hfirst
      have hlen2 : ns.length = s.ls.length := by rw [hc.1, c1, t1]
      have hother : ∀ i, i < s.ls.length → i ≠ p → sb ns i = sb ms i := fun i hi hip => by
        rcases hc.2 i (by omega) with e | ⟨y, hy, e1, e2⟩
        · rw [c1] at e; exact sb_of_get e
        · rw [c2 y hy] at e1
          exact absurd e1.symm hip
      rcases hc.2 p (by omega) with e | ⟨y, hy, e1, e2⟩
      · left
        rw [c1] at e
        have hp := sb_of_get e
        refine h.parts hfu hlen2 fun i hi => ?_
        by_cases hip : i = p
        · subst hip; left; rw [hp]; exact hsame i (by omega)
        · rw [hother i hi hip]
          by_cases hx : p < i ∧ i < p + need n
          · exact .inr ⟨hx.1, by omega, _, hpart i hx.1 hx.2⟩
          · exact .inl (hsame i (by omega))
      · right
        rw [c2 y hy] at e2
        refine h.more hen hfu hlen2 b n hn hn2 hfit (sb_of_some e2 (first_byte _ _ _ _)) (fun j hj => ?_) (fun i hi hio => ?_)
        · rw [hother _ (by omega) (by omega), hpart _ (by omega) (by omega)]
          congr 3; omega
        · rw [hother i hi (by omega)]; exact hsame i (by omega)
/-- a Truncate that was done; one that was broken off -/
theorem LInv.cut (h : LInv s.ls f en ag hd bs p) (hW : s.W = []) (hag : ag < 1000000) {ok : Bool} (hr : acts s [some (f + (1 - hd), sec (headL (ag + 1))), none] = (s', ok)) :
    (ok = true → s'.W = [] ∧ s'.ar = s.ar ∧ s'.off = s.off ∧ LInv s'.ls f en (ag + 1) (1 - hd) [] (f + 2)) ∧ (ok = false → ∀ ns, CrashOf s' ns → LInv ns f en ag hd bs p ∨ LInv ns f en (ag + 1) (1 - hd) [] (f + 2)) := by
  have hlen := h.len
  have hge := h.ge
  have hage := h.age
  have hh := head_len (ag + 1) (by omega) (by omega)
  obtain ⟨g1, g2⟩ := one_acts _ hW hr
  refine ⟨fun ho => ?_, fun ho ns hc => ?_⟩
  · obtain ⟨c1, c2, c3, c4⟩ := g1 ho
    refine ⟨c1, c3, c4, ?_⟩
    rw [c2]
    exact h.trunc (full_set h.full _ _ (sec_size _ hh)) (by rw [List.length_set]) hag (sb_set_same (by show f + (1 - hd) < s.ls.length; omega) _ (head_byte _)) fun i hi hne => sb_set_ne hne _
  · obtain ⟨c1, c2⟩ := g2 ho
    have hfu : Full ns := crash_full hc (by rw [c1]; exact h.full) fun y hy => by
      rw [c2 y hy]
      exact sec_size _ hh
    have hlen2 : ns.length = s.ls.length := by rw [hc.1, c1]
    have hother : ∀ i, i < s.ls.length → i ≠ f + (1 - hd) → sb ns i = sb s.ls i := fun i hi hip => by
      rcases hc.2 i (by omega) with e | ⟨y, hy, e1, e2⟩
      · rw [c1] at e; exact sb_of_get e
      · rw [c2 y hy] at e1
        exact absurd e1.symm hip
    rcases hc.2 (f + (1 - hd)) (by omega) with e | ⟨y, hy, e1, e2⟩
    · left
      rw [c1] at e
      refine h.parts hfu hlen2 fun i hi => .inl ?_
      by_cases hip : i = f + (1 - hd)
      · rw [hip]; exact sb_of_get e
      · exact hother i hi hip
    · right
      rw [c2 y hy] at e2
      exact h.trunc hfu hlen2 hag (sb_of_some e2 (head_byte _)) hother
/-- what lasts is all, where nothing waits -/
theorem LInv.crash (h : LInv s.ls f en ag hd bs p) (hW : s.W = []) (ns : List ByteArray) (hc : CrashOf s ns) : LInv ns f en ag hd bs p := by
  have hfu : Full ns := crash_full hc h.full fun y hy => by rw [hW] at hy; cases hy
  refine h.parts hfu hc.1 fun i hi => .inl ?_
  rcases hc.2 i (by rw [hc.1]; exact hi) with e | ⟨y, hy, _⟩
  · exact sb_of_get e
  · rw [hW] at hy; cases hy
end
/-- a log that was just laid -/
theorem zer_sb {ns : List ByteArray} (hf : Full ns) (a : Nat) : ∀ j, a + 1 + j ≤ ns.length → (zer ns a j).length = ns.length ∧ Full (zer ns a j) ∧ ∀ q, sb (zer ns a j) q = if a + 1 ≤ q ∧ q < a + 1 + j then padL [] else sb ns q
  | 0, _ => ⟨rfl, hf, fun q => by rw [if_neg (by omega)]; rfl⟩
  | j + 1, h => by
    obtain ⟨h1, h2, h3⟩ := zer_sb hf a j (by omega)
    rw [zer]
    refine ⟨by rw [List.length_set, h1], full_set h2 _ _ (sec_size _ (by simp)), fun q => ?_⟩
    by_cases hq : q = a + 1 + j
    · subst hq
      rw [sb_set_same (by omega) _ (by simp), if_pos (by omega)]
    · rw [sb_set_ne hq, h3 q]
      by_cases h5 : a + 1 ≤ q ∧ q < a + 1 + j
      · rw [if_pos h5, if_pos (by omega)]
      · rw [if_neg h5, if_neg (by omega)]
theorem LInv.fmt {ns : List ByteArray} (hf : Full ns) (a b : Nat) (hb : 3 ≤ b) (hab : a + b ≤ ns.length) : LInv (fmt ns a b) a (a + b) 1 0 [] (a + 2) := by
  obtain ⟨h1, h2, h3⟩ := zer_sb hf a (b - 1) (by omega)
  have hl : (headL 1).length ≤ 512 := head_len 1 (by decide) (by decide)
  have hz : ∀ q, a < q → q < a + b → sb (Go.Proofs.YtfhgdcljhncjmaaDoor.fmt ns a b) q = padL [] := fun q q1 q2 => by
    unfold Go.Proofs.YtfhgdcljhncjmaaDoor.fmt
    rw [sb_set_ne (by omega), h3 q, if_pos (by omega)]
  have h0 : sb (Go.Proofs.YtfhgdcljhncjmaaDoor.fmt ns a b) a = padL (headL 1) := by
    unfold Go.Proofs.YtfhgdcljhncjmaaDoor.fmt
    exact sb_set_same (by omega) _ (head_byte 1)
  refine ⟨full_set h2 _ _ (sec_size _ hl), by unfold Go.Proofs.YtfhgdcljhncjmaaDoor.fmt; rw [List.length_set, h1]; exact hab, ⟨by omega, by omega⟩, by omega, h0, stAt_fresh _ h0 (hz (a + 1) (by omega) (by omega)), ⟨by decide, by decide⟩, .nil, fun q q1 q2 => by rw [hz q (by omega) q2]; exact noFirst_zero _, fun q q1 q2 => by rw [hz q (by omega) q2]; exact noFirst_zero _⟩
end Go.Proofs.YtfhgdcljhncjmaaDoor
