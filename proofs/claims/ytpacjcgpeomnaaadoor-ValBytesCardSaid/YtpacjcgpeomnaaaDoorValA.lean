/- Values in form, and their bytes: what is said of them. -/
import Derived.Test.YtpacjcgpeomnaaaDoorValV
import Derived.Test.YtpacjcgpeomnaaaDoorFd
import Derived.Test.YtpacjcgpeomnaaaDoorFn
namespace Go.Proofs.YtpacjcgpeomnaaaDoor
open Go.ChangeShapes Go.WideShapes Go.ChangeAt Go.RowKit
open Go.Proofs.YtpacjcgpeomnaaaDoor.Fw (zz vb bytesOf)
set_option linter.unusedVariables false

/-- a text's bytes as a number, the highest first -/
def beN (l : List UInt8) : Nat := l.foldl (fun x c => x * 256 + c.toNat) 0
theorem beN_snoc (l : List UInt8) (c : UInt8) : beN (l ++ [c]) = beN l * 256 + c.toNat := by simp [beN]
theorem beN_lt : ∀ (k : Nat) (l : List UInt8), l.length = k → beN l < 256 ^ k
  | 0, l, h => by rw [List.length_eq_zero_iff.1 h]; decide
  | k + 1, l, h => by
    have hne : l ≠ [] := by intro e; rw [e] at h; simp at h
    rw [← List.dropLast_concat_getLast hne, beN_snoc, Nat.pow_succ]
    have := beN_lt k l.dropLast (by rw [List.length_dropLast]; omega)
    have h3 := (l.getLast hne).toNat_lt
    omega
def empB (t : ByteArray) : Bool := t.size == 0
/-- a float's bytes -/
def floB (t : ByteArray) : Bool := t.size == 8 && Fn.canon (beN t.data.toList) == beN t.data.toList
/-- in form, but for what its parts are -/
def formB (v : T) : Bool :=
  if v.k = 0 then Fd.w63 v.n == v.n && empB v.t && v.ks.isEmpty
  else if v.k = 1 then v.n == 0 && floB v.t && v.ks.isEmpty
  else if v.k = 2 then v.n == 0 && decide (v.t.size ≤ 4096) && v.ks.isEmpty
  else if v.k = 3 then decide (0 ≤ v.n) && decide (v.n ≤ 255) && empB v.t && decide (v.ks.length ≤ 8)
  else if v.k = 4 then v.n == 0 && empB v.t && decide (2 ≤ v.ks.length) && decide (v.ks.length ≤ 8)
  else if v.k = 5 then decide (1 ≤ v.n) && decide (v.n ≤ 1099511627776) && empB v.t && v.ks.isEmpty
  else if v.k = 6 then v.n == 0 && empB v.t && v.ks.isEmpty
  else false
/-- a value's bytes, but for its parts' -/
def front (v : T) : List Nat := vb (zz v.k) ++
  (if v.k = 0 ∨ v.k = 5 then vb (zz v.n)
   else if v.k = 1 ∨ v.k = 2 then vb (zz (v.t.size : Int)) ++ bytesOf v.t
   else if v.k = 3 then vb (zz v.n) ++ vb (zz (v.ks.length : Int))
   else if v.k = 4 then vb (zz (v.ks.length : Int))
   else [])
/-- a value's bytes -/
def bytesT (v : T) : List Nat := (v.pre 1).flatMap fun x => front x.2
/-- in form, all of it -/
def rightB (l : List (Nat × T)) : Bool := l.all fun x => decide (x.1 ≤ 200) && formB x.2
/-- the error -/
def chk (v : T) : Int := if rightB (v.pre 1) = false then 2 else if 16384 < (bytesT v).length then 4 else 0
end Go.Proofs.YtpacjcgpeomnaaaDoor
