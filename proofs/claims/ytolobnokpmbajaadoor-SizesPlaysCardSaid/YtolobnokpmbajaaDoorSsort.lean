/-
  slices.SortStableFunc and slices.Reverse at lines, and the two functions that compare lines.
-/
import Derived.Test.YtolobnokpmbajaaDoorSstab
import Derived.Test.YtolobnokpmbajaaDoorShelf
import Derived.Shelf.SlicesQ.Reverse
namespace Go.Proofs.YtolobnokpmbajaaDoor
open Go.Shelf Go.RowKit Go.Lib Go.Sort Go.Proofs St

theorem lay3 : Lay Tryd.prog 3 := {
  mixed := by kernel_rfl,
  f1 := Tryd.func96,
  f2 := Tryd.func89,
  f3 := Tryd.func80,
  t0 := Tryd.underlying0,
  a0 := Tryd.isAgg0,
  z0 := Tryd.sizeOf0,
  v0 := Tryd.zeroValue0,
  t3 := Tryd.underlying3,
  a3 := Tryd.isAgg3,
  z3 := Tryd.sizeOf3,
  v3 := Tryd.zeroValue3,
  t4 := Tryd.underlying4,
  a4 := Tryd.isAgg4,
  z4 := Tryd.sizeOf4,
  v4 := Tryd.zeroValue4,
  tu := Tryd.underlying96,
  au := Tryd.isAgg96,
  zu := Tryd.sizeOf96,
  vu := Tryd.zeroValue96,
  tl := Tryd.underlying22,
  al := Tryd.isAgg22,
  zl := Tryd.sizeOf22,
  aE := Tryd.isAgg30,
  zE := Tryd.sizeOf30,
  af := Tryd.isAgg64,
  zf := Tryd.sizeOf64 }

set_option maxHeartbeats 1000000 in
theorem byName_any (x y : Line) (W : World) : Calls Tryd.prog 38 #[.agg (enc x).toArray, .agg (enc y).toArray] W fun e w' => e = .returned (.int .i64 (cf x y)) ∧ ∃ q os', w' = grow (W.drewN q) os' := by
  have hcon := fun W' => Tryd.strings_Compare ⟨x.name.toArray⟩ ⟨y.name.toArray⟩ W'
  have hcf : Lib.compareBytes (⟨x.name.toArray⟩ : ByteArray).data.toList (⟨y.name.toArray⟩ : ByteArray).data.toList = cf x y := rfl
  rw [hcf] at hcon
  generalize cf x y = r at hcon ⊢
  clear hcf
  unfold enc
  go_enter Tryd.func38, Tryd.ntmps38
  go_wp2_with (go_at_call 62; refine (hcon _).mono ?_; rintro e w' ⟨rfl, rfl⟩)
  go_ret
  exact ⟨rfl, 0, _, by rw [alloc_eq_grow, alloc_eq_grow, grow_grow]; rfl⟩
set_option maxHeartbeats 1000000 in
theorem sameName_any (x y : Line) (W : World) : Calls Tryd.prog 40 #[.agg (enc x).toArray, .agg (enc y).toArray] W fun e w' => e = .returned (.bool (decide (x.name = y.name))) ∧ ∃ q os', w' = grow (W.drewN q) os' := by
  unfold enc
  go_enter Tryd.func40, Tryd.ntmps40
  go_wp2
  go_ret
  refine ⟨?_, 0, _, by rw [alloc_eq_grow, alloc_eq_grow, grow_grow]; rfl⟩
  congr 1
  by_cases h : x.name = y.name <;> simp [h]

theorem insert_in : ∀ args w, (callFunc 79 args).run Tryd.prog w = .ok (.enter 79 args) w := enters_of Tryd.func79 (by kernel_rfl) rfl
theorem cmpLays (blk off size : Nat) (w : World) : CmpLays Tryd.prog 38 #[] enc 3 cf blk off size w := fun _ _ _ _ x y => byName_any x y _
theorem byName_in : ∀ args w, (callFunc 38 args).run Tryd.prog w = .ok (.enter 38 args) w := enters_of Tryd.func38 (by kernel_rfl) rfl
theorem sameName_in : ∀ args w, (callFunc 40 args).run Tryd.prog w = .ok (.enter 40 args) w := enters_of Tryd.func40 (by kernel_rfl) rfl

theorem insAt (blk off cap : Nat) (d : Array Line) (w : World) (R : RowK enc 3 w blk off d) (hsz : d.size < 1000000000000) : InsAt Tryd.prog 3 38 #[] blk off cap w d := by
  intro a b dk W hs S hab hb
  have hC : CmpLays Tryd.prog 38 #[] enc 3 cf blk off dk.size W := cmpLays _ _ _ _
  have c := AnyQ.insertionSortCmpFunc Tryd.layIns 3 Tryd.isAgg30 Tryd.sizeOf30 enc R.hk R.h1 cf 38 #[] blk off cap a b dk W byName_in hC (S.holds R.hblk R.hH hs.symm) (S.lt R.hblk) hab hb (by omega)
  change Calls Tryd.prog 79 _ _ _ at c
  refine c.mono ?_
  rintro e w' ⟨rfl, n, os, rfl⟩
  have := ins_mg dk a b hab hb
  exact ⟨rfl, _, this, S.on R.hblk n _ os this.1.size⟩

set_option maxHeartbeats 1000000 in
/-- slices.SortStableFunc: it leaves lines of one name in their order, and the row sorted -/
theorem sortStable_any (blk off cap n : Nat) (d : Array Line) (w : World) (R : RowK enc 3 w blk off d) (hn : n = d.size) (hsz : n < 1000000000000) :
    Calls Tryd.prog 37 #[.slice (some ⟨blk, off, none⟩) n cap, .func (.func 38) #[] #[]] w fun e w' =>
      e = .returned (.tuple #[]) ∧ ∃ r, (Mg 0 n d r ∧ Srt r 0 n) ∧ SWK enc 3 w blk off r w' := by
  have h1 : d.size < 1000000000000 := by omega
  have h2 : d.size < 4611686018427387904 := by omega
  have c1 : InsAt Tryd.prog 3 38 #[] blk off cap w d := insAt blk off cap d w R h1
  have c2 : SymAt Tryd.prog 3 38 #[] blk off cap w d n := sym_any lay3 38 #[] blk off cap d w byName_in (cmpLays blk off d.size w) R h2 n
  have C := stable_any lay3 38 #[] blk off cap n d w Tryd.func61 insert_in c1 c2 hn hsz (SWK.start R.hH)
  clear c1 c2 h1 h2 hn
  go_enter Tryd.func37, Tryd.ntmps37
  go_wp2_with (go_at_call 61; refine C.mono ?_; clear C; rintro e w' ⟨rfl, r, h1, h2⟩)
  go_end0
  exact ⟨rfl, r, h1, h2⟩
end Go.Proofs.YtolobnokpmbajaaDoor
