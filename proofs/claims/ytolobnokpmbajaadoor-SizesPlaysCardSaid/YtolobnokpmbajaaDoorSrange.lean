/-
  slices.swapRangeCmpFunc and slices.rotateCmpFunc at lines.
-/
import Derived.Test.YtolobnokpmbajaaDoorChecked
import Derived.Test.YtolobnokpmbajaaDoorSord
import Derived.Shelf.SlSortCmp.KitK
import Derived.Sort.WalkB2
import Derived.Sort.WalkB12
import Derived.Deep.LoopGhost
namespace Go.Proofs.YtolobnokpmbajaaDoor
open Go.Shelf Go.RowKit Go.Lib Go.Sort Go.Proofs

/-- a line's three cells -/
def enc (x : Line) : List Value := [.int .i64 x.size, .int .i64 x.time, .string ⟨x.name.toArray⟩]
theorem enc_len (x : Line) : (enc x).length = 3 := rfl
theorem enc_one (x : Line) : ∀ v ∈ enc x, v.oneCell' = true := by
  intro v hv
  simp only [enc, List.mem_cons, List.not_mem_nil, or_false] at hv
  rcases hv with rfl | rfl | rfl <;> rfl

theorem swp_rot {d : Array Line} {i j : Nat} (hi : i < d.size) (hj : j < d.size) (t : Nat) : (swp d i j)[t]! = if t = j then d[i]! else if t = i then d[j]! else d[t]! := swp_get d hi hj t

/-- a program that has the texts of the stable sort at lines, and of an element's type only its size -/
structure Lay (P : Program) (k : Nat) : Prop where
  mixed : P.follows .mixedOrders = true
  f1 : P.funcs[(96 : Nat)]? = some Tryd.f96
  f2 : P.funcs[(89 : Nat)]? = some Tryd.f89
  f3 : P.funcs[(80 : Nat)]? = some Tryd.f80
  t0 : P.underlying 0 = some (TypeDesc.tuple #[])
  a0 : ∀ w, (isAgg 0).run P w = .ok false w
  z0 : ∀ w, (Go.sizeOf 0).run P w = .ok 1 w
  v0 : ∀ w, (zeroValue 0).run P w = .ok (Value.tuple #[]) w
  t3 : P.underlying 3 = some (TypeDesc.int IntKind.i64)
  a3 : ∀ w, (isAgg 3).run P w = .ok false w
  z3 : ∀ w, (Go.sizeOf 3).run P w = .ok 1 w
  v3 : ∀ w, (zeroValue 3).run P w = .ok (Value.int IntKind.i64 0) w
  t4 : P.underlying 4 = some (TypeDesc.bool)
  a4 : ∀ w, (isAgg 4).run P w = .ok false w
  z4 : ∀ w, (Go.sizeOf 4).run P w = .ok 1 w
  v4 : ∀ w, (zeroValue 4).run P w = .ok (Value.bool false) w
  tu : P.underlying 96 = some (TypeDesc.int IntKind.u64)
  au : ∀ w, (isAgg 96).run P w = .ok false w
  zu : ∀ w, (Go.sizeOf 96).run P w = .ok 1 w
  vu : ∀ w, (zeroValue 96).run P w = .ok (Value.int IntKind.u64 0) w
  tl : P.underlying 22 = some (TypeDesc.slice 30)
  al : ∀ w, (isAgg 22).run P w = .ok false w
  zl : ∀ w, (Go.sizeOf 22).run P w = .ok 1 w
  aE : ∀ w, (isAgg 30).run P w = .ok true w
  zE : ∀ w, (Go.sizeOf 30).run P w = .ok k w
  af : ∀ w, (isAgg 64).run P w = .ok false w
  zf : ∀ w, (Go.sizeOf 64).run P w = .ok 1 w

/-- i lines from a on, and as many from b on, exchanged -/
structure Exch (d : Array Line) (a b i : Nat) (r : Array Line) : Prop where
  size : r.size = d.size
  fst : ∀ t, t < i → r[a + t]! = d[b + t]!
  snd : ∀ t, t < i → r[b + t]! = d[a + t]!
  out : ∀ t, t < d.size → (t < a ∨ a + i ≤ t) → (t < b ∨ b + i ≤ t) → r[t]! = d[t]!
theorem Exch.start (d : Array Line) (a b : Nat) : Exch d a b 0 d := ⟨rfl, fun t h => by omega, fun t h => by omega, fun _ _ _ _ => rfl⟩
theorem Exch.step {d r : Array Line} {a b i : Nat} (h : Exch d a b i r) (hab : a + i < b) (hb : b + i < d.size) : Exch d a b (i + 1) (swp r (a + i) (b + i)) := by
  have hs := h.size
  have g : ∀ t, (swp r (a + i) (b + i))[t]! = if t = b + i then r[a + i]! else if t = a + i then r[b + i]! else r[t]! := fun t => swp_rot (by omega) (by omega) t
  refine ⟨by rw [size_swp]; exact hs, fun t ht => ?_, fun t ht => ?_, fun t ht h1 h2 => ?_⟩
  · rw [g]
    by_cases e : t = i
    · subst e
      rw [if_neg (by omega), if_pos rfl]
      exact h.out _ (by omega) (by omega) (by omega)
    · rw [if_neg (by omega), if_neg (by omega)]
      exact h.fst t (by omega)
  · rw [g]
    by_cases e : t = i
    · subst e
      rw [if_pos rfl]
      exact h.out _ (by omega) (by omega) (by omega)
    · rw [if_neg (by omega), if_neg (by omega)]
      exact h.snd t (by omega)
  · rw [g, if_neg (by omega), if_neg (by omega)]
    exact h.out t ht (by omega) (by omega)

set_option maxHeartbeats 4000000 in
set_option maxRecDepth 1000000 in
theorem swapRange_any {P : Program} {k : Nat} (L : Lay P k) (g : Nat) (cb : Array Value) (blk off cap a b n : Nat) (d0 d : Array Line) (w0 w : World)
    (R : RowK enc k w0 blk off d0) (hs : d0.size = d.size) (S : SWK enc k w0 blk off d w) (hab : a + n ≤ b) (hb : b + n ≤ d.size) (hsz : d.size < 4611686018427387904) :
    Calls P 96 #[.slice (some ⟨blk, off, none⟩) d.size cap, .int .i64 a, .int .i64 b, .int .i64 n, .func (.func g) #[] cb] w fun e w' =>
      e = .returned (.tuple #[]) ∧ ∃ r, Exch d a b n r ∧ SWK enc k w0 blk off r w' := by
  have mixed := L.mixed; have t0 := L.t0; have a0 := L.a0; have z0 := L.z0; have v0 := L.v0; have t3 := L.t3; have a3 := L.a3; have z3 := L.z3; have v3 := L.v3; have t4 := L.t4; have a4 := L.a4; have z4 := L.z4; have v4 := L.v4; have tu := L.tu; have au := L.au; have zu := L.zu; have vu := L.vu; have tl := L.tl; have al := L.al; have zl := L.zl; have aE := L.aE; have zE := L.zE; have af := L.af; have zf := L.zf
  have ul := run_underlying L.tl
  have S0 : Aside (SWK enc k w0 blk off d w) := S
  have R0 : Hid (RowK enc k w0 blk off d0) := R
  clear S R
  go_enter L.f1, Tryd.ntmps96
  go_wp2
  go_loopg [10] n (fun kx s10 wr => ∃ (i : Nat) (dk : Array Line), s10 = .int .i64 i ∧ i ≤ n ∧ n - i ≤ kx ∧ dk.size = d.size ∧ Aside (SWK enc k w0 blk off dk wr) ∧ Hid (Exch d a b i dk))
  case atStart => exact ⟨0, d, rfl, by omega, by omega, rfl, S0, Exch.start d a b⟩
  case round =>
    clear S0
    obtain ⟨i, dk, rfl, hin, hkx, hds, S1, E⟩ := hrel
    by_cases hlt : (i : Int) < (n : Int)
    · go_wp2_with fail
      have ea : ((a : Int) + (i : Int)).toNat = a + i := by omega
      have pa : (0 : Int) ≤ (a : Int) + (i : Int) := by omega
      have ba : (a : Int) + (i : Int) < (d.size : Int) := by omega
      have ra : IntKind.i64.wrap ((a : Int) + (i : Int)) = (a : Int) + (i : Int) := by rw [IntKind.wrap_i64]; omega
      have eb : ((b : Int) + (i : Int)).toNat = b + i := by omega
      have pb : (0 : Int) ≤ (b : Int) + (i : Int) := by omega
      have bb : (b : Int) + (i : Int) < (d.size : Int) := by omega
      have rb : IntKind.i64.wrap ((b : Int) + (i : Int)) = (b : Int) + (i : Int) := by rw [IntKind.wrap_i64]; omega
      have S2 : Aside (SWK enc k w0 blk off (swp dk (a + i) (b + i)) ((wr.drew.setCells blk (off + (a + i) * k) (enc dk[b + i]!)).setCells blk (off + (b + i) * k) (enc dk[a + i]!))) := S1.out.swapped R0.out (a + i) (b + i) (by omega) (by omega)
      have l1 := S1.out.ld1 R0.out (by omega) P (a + i) (by omega)
      have l2 := S1.out.ld1 R0.out (by omega) P (b + i) (by omega)
      have s1 := S1.out.st1 R0.out (by omega) P (a + i) (by omega) dk[b + i]!
      have s2 := S1.out.st2 R0.out (by omega) P (a + i) (b + i) (by omega) (by omega) dk[b + i]! dk[a + i]!
      have n1 : (enc dk[a + i]!).length = k := R0.out.hk _
      have n2 : (enc dk[b + i]!).length = k := R0.out.hk _
      generalize enc dk[a + i]! = cI at S2 l1 s2 n1
      generalize enc dk[b + i]! = cJ at S2 l2 s1 s2 n2
      clear S1
      go_wp2_with fail
      go_big_region_o
      clear l1 l2 s1 s2
      generalize (wr.drew.setCells blk (off + (a + i) * k) cJ).setCells blk (off + (b + i) * k) cI = w2 at S2 ⊢
      go_wp2
      go_roundg (n - (i + 1))
      case measure => omega
      case rel => exact ⟨i + 1, swp dk (a + i) (b + i), by go_num, by omega, by omega, by rw [size_swp]; exact hds, S2, E.out.step (by omega) (by omega)⟩
    · go_wp2
      go_end0
      obtain rfl : i = n := by omega
      exact ⟨rfl, dk, E.out, S1.out⟩

end Go.Proofs.YtolobnokpmbajaaDoor
