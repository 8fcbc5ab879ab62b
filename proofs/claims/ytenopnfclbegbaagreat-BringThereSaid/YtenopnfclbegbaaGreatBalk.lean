/-
  Two worlds that agree: Alike; what the laws ask of the program.
-/
import Derived.Test.YtenopnfclbegbaaGreatBplay
import Derived.Test.YtenopnfclbegbaaGreatLsame
import Derived.Test.YtenopnfclbegbaaGreatLways
import Derived.Test.YtenopnfclbegbaaGreatBawk
namespace Go.Proofs.YtenopnfclbegbaaGreat.BR
open Go.RowKit Go.Shelf G
attribute [local go_sem] Oper.semAt_some

theorem Alike_any {ex : Ext} {B X A M F : Nat} {mv nv dv : Value} {st : St} {W : World} (hf : Fine 900 st) (hW : Wd B X A M mv st W) (hF : Fs ex B F nv dv st W) : Calls Tryz.prog 10 #[.pointer (some ⟨X, 0, none⟩), .pointer (some ⟨F, 0, none⟩)] W fun e w' => e = .returned (.bool true) ∧ Below W.heap.size W w' := by
  have hl := hf.last
  have cs := same_any hf.inv (hf.ranged (by decide)) (fun no _ _ => hf.inv.agrees no) hW hF (by omega)
  clear hW hF
  go_enter Tryz.func10, Tryz.ntmps10
  go_wp2_with (go_at_call 30; refine cs.mono ?_; rintro e w' ⟨rfl, hb⟩)
  go_ret
  exact ⟨rfl, hb⟩
theorem brings {B X A M : Nat} {mv : Value} {st : St} (hf : Fine 900 st) : Brings B X A M mv st where
  dir := fun _ hW _ cu cg t k p mode hk _ => Dir_any hf hW cu cg t k hk p mode
  file := fun _ hW _ cu cg t k p mode x hk _ hx => File_any hf hW cu cg t k hk p mode x hx
  sym := fun _ hW _ cu cg t k p x hk _ hx => Sym_any hf hW cu cg t k hk p x hx
  hard := fun _ hW _ cu cg t no k p hk hn _ => Hard_any hf hW cu cg t no k hk hn p
  place := fun _ hW _ cu cg k p hk _ => Place_any hW cu cg k hk p
theorem the_plays : Plays where
  acts := brings
  same := Alike_any
  awake := awake_any
end Go.Proofs.YtenopnfclbegbaaGreat.BR
