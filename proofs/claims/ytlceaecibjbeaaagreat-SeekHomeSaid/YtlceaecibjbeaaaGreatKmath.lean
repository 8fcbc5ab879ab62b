/-
  Where a path leads: the mathematics.
-/
import Derived.Test.YtlceaecibjbeaaaGreatWone
import Derived.Test.YtlceaecibjbeaaaGreatRthr
import Derived.Test.YtlceaecibjbeaaaGreatMath
import Derived.Test.YtlceaecibjbeaaaGreatQmath
import Derived.Test.YtlceaecibjbeaaaGreatEfind
namespace Go.Proofs.YtlceaecibjbeaaaGreat.K
open G

/-- what is told of where a path leads -/
structure Fd where
  dir : Int
  name : List UInt8
  no : Int
  slash : Bool
def noFd : Fd := ⟨0, [], 0, false⟩
/-- a link's text, a node's kind -/
def text (st : St) (k : Int) : List UInt8 := (gets st.n k).data.data.toList
def kind (st : St) (k : Int) : Int := (gets st.n k).kind
/-- what a name leads to in a directory -/
def hit (st : St) (k : Int) (p : List UInt8) : Int := over st.d (E.numOf (gets st.n k).es p)
/-- may somebody search a directory? -/
def may (cu cg : Int) (st : St) (k : Int) : Bool := PM.may cu cg (gets st.n k).uid (gets st.n k).gid (gets st.n k).mode 1
/-- is a link followed? -/
def goes (follow must : Bool) (r : List (List UInt8)) : Bool := follow || must || !r.isEmpty
/-- from where a link's text leads on -/
def from_ (t : List UInt8) (here : Int) : Int := if t.head? = some 47 then 1 else here
def must_ (must : Bool) (r : List (List UInt8)) (t : List UInt8) : Bool := must || (r.isEmpty && V.M.slash t)

/-- where a path leads from a number on, with what remains of it -/
def run (st : St) (cu cg : Int) (follow : Bool) (here : Int) (rest : List (List UInt8)) (must : Bool) (hops : Nat) : Fd × Int :=
  match rest with
  | [] => (⟨0, [], here, true⟩, 0)
  | p :: r =>
    if kind st here ≠ 1 then (noFd, 9)
    else if may cu cg st here = false then (noFd, 6)
    else if p = [46, 46] then run st cu cg follow (above st here) r must hops
    else if 255 < p.length then (noFd, 13)
    else if kind st (hit st here p) = 3 ∧ goes follow must r = true then
      if h : 8 ≤ hops then (noFd, 12)
      else if text st (hit st here p) = [] then (noFd, 5)
      else run st cu cg follow (from_ (text st (hit st here p)) here) (V.M.parts (text st (hit st here p)) ++ r) (must_ must r (text st (hit st here p))) (hops + 1)
    else if hit st here p = 0 ∧ r.isEmpty = false then (noFd, 5)
    else if hit st here p ≠ 0 ∧ kind st (hit st here p) ≠ 1 ∧ (r.isEmpty = false ∨ must = true) then (noFd, 9)
    else if r.isEmpty = true then (⟨here, p, hit st here p, must⟩, 0)
    else run st cu cg follow (hit st here p) r must hops
termination_by (8 - hops, rest.length)
decreasing_by
  · exact Prod.Lex.right _ (Nat.lt_succ_self _)
  · exact Prod.Lex.left _ _ (by omega)
  · exact Prod.Lex.right _ (Nat.lt_succ_self _)

/-- where a path leads, and the error -/
def path (st : St) (cu cg : Int) (follow : Bool) (s : List UInt8) : Fd × Int :=
  if V.M.path s = 0 then run st cu cg follow 1 (V.M.parts s) (V.M.slash s) 0 else (noFd, V.M.path s)

section
variable {st : St} {cu cg : Int} {follow : Bool} {here : Int} {p : List UInt8} {r : List (List UInt8)} {must : Bool} {hops : Nat}
theorem run_end : run st cu cg follow here [] must hops = (⟨0, [], here, true⟩, 0) := by rw [run]
theorem run_notdir (h : kind st here ≠ 1) : run st cu cg follow here (p :: r) must hops = (noFd, 9) := by rw [run, if_pos h]
theorem run_access (h : kind st here = 1) (h1 : may cu cg st here = false) : run st cu cg follow here (p :: r) must hops = (noFd, 6) := by
  rw [run, if_neg (by simp [h]), if_pos h1]
theorem run_up (h : kind st here = 1) (h1 : may cu cg st here = true) (h2 : p = [46, 46]) : run st cu cg follow here (p :: r) must hops = run st cu cg follow (above st here) r must hops := by
  rw [run, if_neg (by simp [h]), if_neg (by simp [h1]), if_pos h2]
theorem run_long (h : kind st here = 1) (h1 : may cu cg st here = true) (h3 : 255 < p.length) : run st cu cg follow here (p :: r) must hops = (noFd, 13) := by
  rw [run, if_neg (by simp [h]), if_neg (by simp [h1]), if_neg (by intro e; subst e; simp at h3), if_pos h3]
section
variable (h : kind st here = 1) (h1 : may cu cg st here = true) (h2 : p ≠ [46, 46]) (h3 : ¬ 255 < p.length)
include h h1 h2 h3
theorem run_loop (h4 : kind st (hit st here p) = 3) (h5 : goes follow must r = true) (h6 : 8 ≤ hops) : run st cu cg follow here (p :: r) must hops = (noFd, 12) := by
  rw [run, if_neg (by simp [h]), if_neg (by simp [h1]), if_neg h2, if_neg h3, if_pos ⟨h4, h5⟩, dif_pos h6]
theorem run_empty (h4 : kind st (hit st here p) = 3) (h5 : goes follow must r = true) (h6 : hops < 8) (h7 : text st (hit st here p) = []) : run st cu cg follow here (p :: r) must hops = (noFd, 5) := by
  rw [run, if_neg (by simp [h]), if_neg (by simp [h1]), if_neg h2, if_neg h3, if_pos ⟨h4, h5⟩, dif_neg (by omega), if_pos h7]
theorem run_jump (h4 : kind st (hit st here p) = 3) (h5 : goes follow must r = true) (h6 : hops < 8) (h7 : text st (hit st here p) ≠ []) :
    run st cu cg follow here (p :: r) must hops = run st cu cg follow (from_ (text st (hit st here p)) here) (V.M.parts (text st (hit st here p)) ++ r) (must_ must r (text st (hit st here p))) (hops + 1) := by
  rw [run, if_neg (by simp [h]), if_neg (by simp [h1]), if_neg h2, if_neg h3, if_pos ⟨h4, h5⟩, dif_neg (by omega), if_neg h7]
section
variable (h4 : ¬ (kind st (hit st here p) = 3 ∧ goes follow must r = true))
include h4
theorem run_none (h5 : hit st here p = 0) (h6 : r.isEmpty = false) : run st cu cg follow here (p :: r) must hops = (noFd, 5) := by
  rw [run, if_neg (by simp [h]), if_neg (by simp [h1]), if_neg h2, if_neg h3, if_neg h4, if_pos ⟨h5, h6⟩]
theorem run_file (h5 : hit st here p ≠ 0) (h6 : kind st (hit st here p) ≠ 1) (h7 : r.isEmpty = false ∨ must = true) : run st cu cg follow here (p :: r) must hops = (noFd, 9) := by
  rw [run, if_neg (by simp [h]), if_neg (by simp [h1]), if_neg h2, if_neg h3, if_neg h4, if_neg (fun e => h5 e.1), if_pos ⟨h5, h6, h7⟩]
theorem run_last (h5 : ¬ (hit st here p = 0 ∧ r.isEmpty = false)) (h6 : ¬ (hit st here p ≠ 0 ∧ kind st (hit st here p) ≠ 1 ∧ (r.isEmpty = false ∨ must = true))) (h7 : r.isEmpty = true) :
    run st cu cg follow here (p :: r) must hops = (⟨here, p, hit st here p, must⟩, 0) := by
  rw [run, if_neg (by simp [h]), if_neg (by simp [h1]), if_neg h2, if_neg h3, if_neg h4, if_neg h5, if_neg h6, if_pos h7]
theorem run_go (h5 : ¬ (hit st here p = 0 ∧ r.isEmpty = false)) (h6 : ¬ (hit st here p ≠ 0 ∧ kind st (hit st here p) ≠ 1 ∧ (r.isEmpty = false ∨ must = true))) (h7 : r.isEmpty = false) :
    run st cu cg follow here (p :: r) must hops = run st cu cg follow (hit st here p) r must hops := by
  rw [run, if_neg (by simp [h]), if_neg (by simp [h1]), if_neg h2, if_neg h3, if_neg h4, if_neg h5, if_neg h6, if_neg (by simp [h7])]
end
end
end
end Go.Proofs.YtlceaecibjbeaaaGreat.K
