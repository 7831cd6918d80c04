/- Contract of Crash. -/
import Derived.Test.YtmojieomdbfjcaaBarrier
namespace Go.Proofs.Ytmojieomdbfjcaa
open Go.ChangeShapes Go.WideShapes Go.ChangeAt Go.RowKit

/-- sectors behind the writes that a crash picks -/
def pickTo (ys : List Value) (W : List (Nat × ByteArray)) (f : Nat → Bool) : Nat → List Value
  | 0 => ys
  | k + 1 => if f k = true then (pickTo ys W f k).set (W.getD k (0, ByteArray.empty)).1 (.string (W.getD k (0, ByteArray.empty)).2) else pickTo ys W f k
/-- what is read behind it -/
def nowTo (ns ls : List Value) (W : List (Nat × ByteArray)) : Nat → List Value
  | 0 => ns
  | k + 1 => (nowTo ns ls W k).set (W.getD k (0, ByteArray.empty)).1 (ls.getD (W.getD k (0, ByteArray.empty)).1 default)
theorem pickTo_len (ys : List Value) (W : List (Nat × ByteArray)) (f : Nat → Bool) : ∀ k, (pickTo ys W f k).length = ys.length
  | 0 => rfl
  | k + 1 => by
    unfold pickTo
    split
    · rw [List.length_set, pickTo_len ys W f k]
    · exact pickTo_len ys W f k
theorem nowTo_len (ns ls : List Value) (W : List (Nat × ByteArray)) : ∀ k, (nowTo ns ls W k).length = ns.length
  | 0 => rfl
  | k + 1 => by unfold nowTo; rw [List.length_set, nowTo_len ns ls W k]
def AllStr (l : List Value) : Prop := ∀ v ∈ l, ∃ s : ByteArray, v = .string s
theorem allStr_set {l : List Value} (h : AllStr l) (n : Nat) (s : ByteArray) : AllStr (l.set n (.string s)) := by
  intro v hv
  rcases List.mem_or_eq_of_mem_set hv with h' | h'
  · exact h v h'
  · exact ⟨s, h'⟩
theorem pickTo_str {ys : List Value} (h : AllStr ys) (W : List (Nat × ByteArray)) (f : Nat → Bool) : ∀ k, AllStr (pickTo ys W f k)
  | 0 => h
  | k + 1 => by
    unfold pickTo
    split
    · exact allStr_set (pickTo_str h W f k) _ _
    · exact pickTo_str h W f k
def od (x : Int) : Bool := decide (bits .and .i64 x 1 = 1)

/-- while a crash picks -/
structure CInv (w wr : World) (g : Nat) (vn vw : Value) (st : Int) (ar : Bool) (le : Int) (off : Bool) (gl L C : Nat) (W : List (Nat × ByteArray)) (zs : List Value) : Prop where
  head : Head wr g vn (.slice (some ⟨gl, 0, none⟩) L C) vw st ar le off
  own : wr.ownsRow 0 58 2 vw W.length (wcells W)
  rows : wr.ownsRow 0 9 1 (.slice (some ⟨gl, 0, none⟩) L C) L zs
  only : Only (· = gl) w wr
theorem cinv_alloc {w wr : World} {g : Nat} {vn vw : Value} {st : Int} {ar : Bool} {le : Int} {off : Bool} {gl L C : Nat} {W : List (Nat × ByteArray)} {zs : List Value} (h : CInv w wr g vn vw st ar le off gl L C W zs) (o : Obj) : CInv w (wr.alloc o) g vn vw st ar le off gl L C W zs := by
  have hA : Only (fun _ => False) wr (wr.alloc o) := (Only.refl _ wr).alloc o
  exact ⟨head_only h.head hA fun x => x, own_only h.own hA fun _ _ x => x, own_only h.rows hA fun _ _ x => x, h.only.alloc o⟩
theorem cinv_set {w wr : World} {g : Nat} {vn vw : Value} {st : Int} {ar : Bool} {le : Int} {off : Bool} {gl L C : Nat} {W : List (Nat × ByteArray)} {zs : List Value} (h : CInv w wr g vn vw st ar le off gl L C W zs) (hne : vw.ownBlock ≠ some gl ∧ gl ≠ g)
    (n : Nat) (u : Value) : CInv w (wr.setCell ⟨gl, n, none⟩ u).drew g vn vw st ar le off gl L C W (zs.set n u) := by
  have hS : Only (· = gl) wr (wr.setCell ⟨gl, n, none⟩ u).drew := (only_set (Only.refl _ _) n _).drew
  exact ⟨head_only h.head hS fun x => hne.2 x.symm, own_only h.own hS fun k' hk e => hne.1 (by rw [hk, e]), (World.ownsRow.stored h.rows n u).1, h.only.trans hS⟩

/-- while what is read is set back -/
structure DInv (w wr : World) (g : Nat) (vw : Value) (st : Int) (ar : Bool) (le : Int) (off : Bool) (gl gn L C C' : Nat) (W : List (Nat × ByteArray)) (ls zs : List Value) : Prop where
  head : Head wr g (.slice (some ⟨gn, 0, none⟩) L C') (.slice (some ⟨gl, 0, none⟩) L C) vw st ar le off
  own : wr.ownsRow 0 58 2 vw W.length (wcells W)
  rows : wr.ownsRow 0 9 1 (.slice (some ⟨gl, 0, none⟩) L C) L ls
  now : wr.ownsRow 0 9 1 (.slice (some ⟨gn, 0, none⟩) L C') L zs
  only : Only (fun b => b = gl ∨ b = gn) w wr
theorem dinv_alloc {w wr : World} {g : Nat} {vw : Value} {st : Int} {ar : Bool} {le : Int} {off : Bool} {gl gn L C C' : Nat} {W : List (Nat × ByteArray)} {ls zs : List Value} (h : DInv w wr g vw st ar le off gl gn L C C' W ls zs) (o : Obj) : DInv w (wr.alloc o) g vw st ar le off gl gn L C C' W ls zs := by
  have hA : Only (fun _ => False) wr (wr.alloc o) := (Only.refl _ wr).alloc o
  exact ⟨head_only h.head hA fun x => x, own_only h.own hA fun _ _ x => x, own_only h.rows hA fun _ _ x => x, own_only h.now hA fun _ _ x => x, h.only.alloc o⟩
theorem dinv_set {w wr : World} {g : Nat} {vw : Value} {st : Int} {ar : Bool} {le : Int} {off : Bool} {gl gn L C C' : Nat} {W : List (Nat × ByteArray)} {ls zs : List Value} (h : DInv w wr g vw st ar le off gl gn L C C' W ls zs) (hne : vw.ownBlock ≠ some gn ∧ gn ≠ g ∧ gn ≠ gl)
    (n : Nat) (u : Value) : DInv w (wr.setCell ⟨gn, n, none⟩ u).drew g vw st ar le off gl gn L C C' W ls (zs.set n u) := by
  have hS : Only (· = gn) wr (wr.setCell ⟨gn, n, none⟩ u).drew := (only_set (Only.refl _ _) n _).drew
  exact ⟨head_only h.head hS fun x => hne.2.1 x.symm, own_only h.own hS fun k' hk e => hne.1 (by rw [hk, e]), own_only h.rows hS fun k' hk e => by cases hk; exact hne.2.2 e.symm, (World.ownsRow.stored h.now n u).1, h.only.trans (hS.mono fun _ _ x => .inr x)⟩

section
variable (g : Nat) (st : Int) (ar : Bool) (le : Int) (off : Bool) (w : World)
set_option maxRecDepth 20000 in
theorem crash_any (ao : Option Addr) (cw : Nat) (W : List (Nat × ByteArray)) (m : Nat) (hmW : W.length = m) (hm : m ≤ 1000000) (gl gn L C C' : Nat) (ys ns : List Value) (hys : Hid (AllStr ys))
    (hown : Hid (w.ownsRow 0 58 2 (.slice ao m cw) W.length (wcells W))) (hneg : Hid ((Value.slice ao m cw).ownBlock ≠ some g ∧ (Value.slice ao m cw).ownBlock ≠ some gl ∧ gl ≠ g ∧ (Value.slice ao m cw).ownBlock ≠ some gn ∧ gn ≠ g ∧ gn ≠ gl))
    (hin : Hid (∀ x ∈ W, x.1 < L)) (hL : Hid (w.ownsRow 0 9 1 (.slice (some ⟨gl, 0, none⟩) L C) L ys)) (hN : Hid (w.ownsRow 0 9 1 (.slice (some ⟨gn, 0, none⟩) L C') L ns))
    (sp : Option Addr) (P cp : Nat) (pk : Nat → Int) (hpk : Hid (∀ W', Only (· = gl) w W' → ∀ i, i < P → ∃ g' o, sp = some ⟨g', o, none⟩ ∧ W'.cell? ⟨g', o + i, none⟩ = some (.int .i64 (pk i))))
    (hb : Hid (Head w g (.slice (some ⟨gn, 0, none⟩) L C') (.slice (some ⟨gl, 0, none⟩) L C) (.slice ao m cw) st ar le off)) :
    Calls Try.prog 11 #[.pointer (some ⟨g, 0, none⟩), .slice sp P cp] w fun e w' => e = .returned (.tuple #[]) ∧
      Head w' g (.slice (some ⟨gn, 0, none⟩) L C') (.slice (some ⟨gl, 0, none⟩) L C) (.slice none 0 0) st false 0 false ∧
      w'.ownsRow 0 9 1 (.slice (some ⟨gl, 0, none⟩) L C) L (pickTo ys W (fun i => decide (i < P) && od (pk i)) m) ∧
      w'.ownsRow 0 9 1 (.slice (some ⟨gn, 0, none⟩) L C') L (nowTo ns (pickTo ys W (fun i => decide (i < P) && od (pk i)) m) W m) ∧ Only (fun b => b = g ∨ b = gl ∨ b = gn) w w' := by
  have HmW := Lib.hid (fun _ : True => hmW)
  clear hmW
  have hc2 := head2 hb.out
  have hI0 : Hid (CInv w w g (.slice (some ⟨gn, 0, none⟩) L C') (.slice ao m cw) st ar le off gl L C W ys) := Lib.hid ⟨hb.out, hown.out, hL.out, Only.refl _ _⟩
  go_enter Try.func11, Try.ntmps11
  go_wp2_with fail
  go_loopw [15] (fun i wr => ∃ k : Nat, i = .int .i64 (k : Int) ∧ k ≤ m ∧ Hid (CInv w wr g (.slice (some ⟨gn, 0, none⟩) L C') (.slice ao m cw) st ar le off gl L C W (pickTo ys W (fun i => decide (i < P) && od (pk i)) k))) (fun i _ => m - (intOf i).toNat)
  case atStart => exact ⟨0, rfl, by omega, hI0⟩
  case round =>
    obtain ⟨k, rfl, hkm, hI⟩ := hrel
    clear hI0 hc2
    by_cases hk : k < m
    · have hkW : k < W.length := by rw [HmW.out trivial]; exact hk
      have hII := hI.out
      obtain ⟨gw, rfl⟩ : ∃ gw, ao = some ⟨gw, 0, none⟩ := by
        rcases hII.own.2 with ⟨h, h'⟩ | ⟨gw, cap, cur, h, _⟩
        · omega
        · cases h; exact ⟨gw, rfl⟩
      have hown' := hII.own
      rw [HmW.out trivial] at hown'
      have c0 : wr.cell? ⟨gw, k * 2, none⟩ = some (Value.int .i64 ((W.getD k (0, ByteArray.empty)).1 : Int)) := by rw [World.ownsRow.cellAt hown' (k * 2) (by omega)]; simpa [List.getD, hkW] using (wcells_get W k hkW).1
      have c1 : wr.cell? ⟨gw, k * 2 + 1, none⟩ = some (Value.string (W.getD k (0, ByteArray.empty)).2) := by rw [World.ownsRow.cellAt hown' (k * 2 + 1) (by omega)]; simpa [List.getD, hkW] using (wcells_get W k hkW).2
      have hnL := Lib.hid (show (W.getD k (0, ByteArray.empty)).1 < L by have := hin.out _ (List.getElem_mem hkW); simpa [List.getD, hkW] using this)
      have hset : Hid (True → pickTo ys W (fun i => decide (i < P) && od (pk i)) (k + 1) = if (decide (k < P) && od (pk k)) = true then (pickTo ys W (fun i => decide (i < P) && od (pk i)) k).set (W.getD k (0, ByteArray.empty)).1 (.string (W.getD k (0, ByteArray.empty)).2) else pickTo ys W (fun i => decide (i < P) && od (pk i)) k) := Lib.hid fun _ => rfl
      have hlz : Hid ((pickTo ys W (fun i => decide (i < P) && od (pk i)) k).length = L) := Lib.hid (by have := hII.rows.1; omega)
      generalize (W.getD k (0, ByteArray.empty)).1 = n at *
      generalize (W.getD k (0, ByteArray.empty)).2 = s at *
      obtain ⟨zs, hzs⟩ : ∃ zs, pickTo ys W (fun i => decide (i < P) && od (pk i)) k = zs := ⟨_, rfl⟩
      rw [hzs] at hII hset hlz
      clear hI hzs
      have h2 := cinv_alloc hII (Obj.cells #[Value.int IntKind.i64 (n : Int), Value.string s] 58)
      have d1 := head1 h2.head
      have fn := World.ownsRow.frozenAt h2.rows n
      obtain ⟨x, cn⟩ : ∃ x, (wr.alloc (Obj.cells #[Value.int IntKind.i64 (n : Int), Value.string s] 58)).cell? ⟨gl, n, none⟩ = some x := by
        rw [World.ownsRow.cellAt h2.rows n (by have := hnL.out; omega)]
        exact ⟨_, List.getElem?_eq_getElem (by have := hlz.out; have := hnL.out; omega)⟩
      have hi0 : (0 : Int) ≤ (n : Int) := Int.natCast_nonneg n
      have hi1 : (n : Int) < (L : Int) := by have := hnL.out; omega
      have c80 : (wr.alloc (Obj.cells #[Value.int IntKind.i64 (n : Int), Value.string s] 58)).cell? ⟨wr.heap.size, 0, none⟩ = some (Value.int IntKind.i64 (n : Int)) := new0 _ _ _ _
      have c81 : (wr.alloc (Obj.cells #[Value.int IntKind.i64 (n : Int), Value.string s] 58)).cell? ⟨wr.heap.size, 1, none⟩ = some (Value.string s) := new1 _ _ _ _
      have h2' := Lib.hid h2
      clear hII hown' h2
      by_cases hp : k < P
      · obtain ⟨g', o', rfl, hpc⟩ := hpk.out _ h2'.out.only k hp
        by_cases ho : bits .and .i64 (pk k) 1 = 1
        · have hnext := Lib.hid (cinv_set h2'.out ⟨hneg.out.2.1, hneg.out.2.2.1⟩ n (.string s))
          have hset' : Hid (True → pickTo ys W (fun i => decide (i < P) && od (pk i)) (k + 1) = zs.set n (.string s)) := Lib.hid fun _ => by rw [hset.out trivial, if_pos (by simp [od, hp, ho])]
          go_wp2_with fail
          generalize (wr.alloc (Obj.cells #[Value.int IntKind.i64 (n : Int), Value.string s] 58)) = w2 at *
          go_region
          all_goals go_wp2_with fail
          all_goals go_roundw
          case rel => exact ⟨k + 1, by go_num, by omega, by rw [hset'.out trivial]; exact hnext⟩
          case measure => simp [intOf]; omega
        · have hset' : Hid (True → pickTo ys W (fun i => decide (i < P) && od (pk i)) (k + 1) = zs) := Lib.hid fun _ => by rw [hset.out trivial, if_neg (by simp [od, ho])]
          go_wp2_with fail
          go_roundw
          case rel => exact ⟨k + 1, by go_num, by omega, by rw [hset'.out trivial]; exact h2'⟩
          case measure => simp [intOf]; omega
      · have hset' : Hid (True → pickTo ys W (fun i => decide (i < P) && od (pk i)) (k + 1) = zs) := Lib.hid fun _ => by rw [hset.out trivial, if_neg (by simp [hp])]
        go_wp2_with fail
        go_roundw
        case rel => exact ⟨k + 1, by go_num, by omega, by rw [hset'.out trivial]; exact h2'⟩
        case measure => simp [intOf]; omega
    · obtain rfl : m = k := by omega
      have hII := hI.out
      have hls := Lib.hid (pickTo_str hys.out W (fun i => decide (i < P) && od (pk i)) m)
      obtain ⟨ls, hlsE⟩ : ∃ ls, pickTo ys W (fun i => decide (i < P) && od (pk i)) m = ls := ⟨_, rfl⟩
      rw [hlsE] at hII hls
      have HlsE := Lib.hid (fun _ : True => hlsE)
      clear hI hlsE hpk
      have hJ0 : Hid (DInv w wr g (.slice ao m cw) st ar le off gl gn L C C' W ls (nowTo ns ls W 0)) := Lib.hid ⟨hII.head, hII.own, hII.rows, own_only hN.out hII.only fun k' hk e => hneg.out.2.2.2.2.2 (by cases hk; exact e), hII.only.mono fun _ _ x => .inl x⟩
      have d2 := head2 hII.head
      clear hII
      go_wp2_with fail
      go_loopw [47] (fun i wr => ∃ k : Nat, i = .int .i64 (k : Int) ∧ k ≤ m ∧ Hid (DInv w wr g (.slice ao m cw) st ar le off gl gn L C C' W ls (nowTo ns ls W k))) (fun i _ => m - (intOf i).toNat)
      case atStart => exact ⟨0, rfl, by omega, hJ0⟩
      case round =>
        obtain ⟨k, rfl, hkm, hI⟩ := hrel
        clear hJ0 d2
        by_cases hk : k < m
        · have hkW : k < W.length := by rw [HmW.out trivial]; exact hk
          have hII := hI.out
          obtain ⟨gw, rfl⟩ : ∃ gw, ao = some ⟨gw, 0, none⟩ := by
            rcases hII.own.2 with ⟨h, h'⟩ | ⟨gw, cap, cur, h, _⟩
            · omega
            · cases h; exact ⟨gw, rfl⟩
          have hown' := hII.own
          rw [HmW.out trivial] at hown'
          have c0 : wr.cell? ⟨gw, k * 2, none⟩ = some (Value.int .i64 ((W.getD k (0, ByteArray.empty)).1 : Int)) := by rw [World.ownsRow.cellAt hown' (k * 2) (by omega)]; simpa [List.getD, hkW] using (wcells_get W k hkW).1
          have c1 : wr.cell? ⟨gw, k * 2 + 1, none⟩ = some (Value.string (W.getD k (0, ByteArray.empty)).2) := by rw [World.ownsRow.cellAt hown' (k * 2 + 1) (by omega)]; simpa [List.getD, hkW] using (wcells_get W k hkW).2
          have hnL := Lib.hid (show (W.getD k (0, ByteArray.empty)).1 < L by have := hin.out _ (List.getElem_mem hkW); simpa [List.getD, hkW] using this)
          have hset : Hid (True → nowTo ns ls W (k + 1) = (nowTo ns ls W k).set (W.getD k (0, ByteArray.empty)).1 (ls.getD (W.getD k (0, ByteArray.empty)).1 default)) := Lib.hid fun _ => rfl
          have hlz : Hid ((nowTo ns ls W k).length = L) := Lib.hid (by have := hII.now.1; omega)
          generalize (W.getD k (0, ByteArray.empty)).1 = n at *
          generalize (W.getD k (0, ByteArray.empty)).2 = s at *
          obtain ⟨zs, hzs⟩ : ∃ zs, nowTo ns ls W k = zs := ⟨_, rfl⟩
          rw [hzs] at hII hset hlz
          clear hI hzs
          have h2 := dinv_alloc hII (Obj.cells #[Value.int IntKind.i64 (n : Int), Value.string s] 58)
          have d0 := head0 h2.head
          have d1 := head1 h2.head
          have fn := World.ownsRow.frozenAt h2.now n
          obtain ⟨x, cn⟩ : ∃ x, (wr.alloc (Obj.cells #[Value.int IntKind.i64 (n : Int), Value.string s] 58)).cell? ⟨gn, n, none⟩ = some x := by
            rw [World.ownsRow.cellAt h2.now n (by have := hnL.out; omega)]
            exact ⟨_, List.getElem?_eq_getElem (by have := hlz.out; have := hnL.out; omega)⟩
          have hll : n < ls.length := by have := h2.rows.1; have := hnL.out; omega
          obtain ⟨t, ht⟩ := hls.out _ (List.getElem_mem hll)
          have cl : (wr.alloc (Obj.cells #[Value.int IntKind.i64 (n : Int), Value.string s] 58)).cell? ⟨gl, n, none⟩ = some (.string t) := by
            rw [World.ownsRow.cellAt h2.rows n (by have := hnL.out; omega), List.getElem?_eq_getElem hll, ht]
          have hget : ls.getD n default = .string t := by simp [List.getD, hll, ht]
          rw [hget] at hset
          clear hget ht hll
          have hi0 : (0 : Int) ≤ (n : Int) := Int.natCast_nonneg n
          have hi1 : (n : Int) < (L : Int) := by have := hnL.out; omega
          have c80 : (wr.alloc (Obj.cells #[Value.int IntKind.i64 (n : Int), Value.string s] 58)).cell? ⟨wr.heap.size, 0, none⟩ = some (Value.int IntKind.i64 (n : Int)) := new0 _ _ _ _
          have c81 : (wr.alloc (Obj.cells #[Value.int IntKind.i64 (n : Int), Value.string s] 58)).cell? ⟨wr.heap.size, 1, none⟩ = some (Value.string s) := new1 _ _ _ _
          have hnext := Lib.hid (dinv_set h2 ⟨hneg.out.2.2.2.1, hneg.out.2.2.2.2⟩ n (.string t))
          clear hII hown' h2
          go_wp2_with fail
          generalize (wr.alloc (Obj.cells #[Value.int IntKind.i64 (n : Int), Value.string s] 58)) = w2 at *
          go_region
          all_goals go_wp2_with fail
          all_goals go_roundw
          case rel => exact ⟨k + 1, by go_num, by omega, by rw [hset.out trivial]; exact hnext⟩
          case measure => simp [intOf]; omega
        · obtain rfl : m = k := by omega
          have hII := hI.out
          have d2 := head2 hII.head
          have f2 := head_free (i := 2) hII.head
          obtain ⟨h3, h4, h5, h6, f3, f4, f5, f6⟩ := head_facts hII.head
          have hfin := Lib.hid (And.intro (head_set6 (head_set5 (head_set4 (head_set2 hII.head (.slice none 0 0)) false) 0) false) hII)
          clear hII
          go_wp2_with fail
          go_end0
          obtain ⟨a, b⟩ := hfin.out
          have hS : Only (· = g) wr ((((wr.setCell ⟨g, 2, none⟩ (.slice none 0 0)).setCell ⟨g, 4, none⟩ (.bool false)).setCell ⟨g, 5, none⟩ (.int .i64 0)).setCell ⟨g, 6, none⟩ (.bool false)) := only_set (only_set (only_set (only_set (Only.refl _ _) 2 _) 4 _) 5 _) 6 _
          rw [HlsE.out trivial]
          exact ⟨rfl, a, own_only b.rows hS fun k' hk e => hneg.out.2.2.1 (by cases hk; exact e), own_only b.now hS fun k' hk e => hneg.out.2.2.2.2.1 (by cases hk; exact e), (b.only.mono fun _ _ x => .inr x).trans (hS.mono fun _ _ x => .inl x)⟩
end
end Go.Proofs.Ytmojieomdbfjcaa
