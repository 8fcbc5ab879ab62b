/-
  slices.rotateCmpFunc at lines.
-/
import Derived.Test.YtolobnokpmbajaaDoorSrange
namespace Go.Proofs.YtolobnokpmbajaaDoor
open Go.Shelf Go.RowKit Go.Lib Go.Sort Go.Proofs St

theorem at_eq (r : Array Line) {a b : Nat} (h : a = b) : r[a]! = r[b]! := by rw [h]
theorem Exch.rot_gt {d r1 r : Array Line} {i j m : Nat} (hij : j < i) (him : i ≤ m) (hm : m + j ≤ d.size) (E : Exch d (m - i) m j r1) (H : Rot r1 (m - (i - j)) m (m + j) r) : Rot d (m - i) m (m + j) r := by
  have hs := E.size
  refine ⟨by omega, by omega, hm, by rw [H.size, hs], fun t ht => ?_, fun t h1 h2 => ?_, fun t ht => ?_, fun t ht => ?_⟩
  · rw [H.lo t (by omega)]; exact E.out t (by omega) (by omega) (by omega)
  · rw [H.hi t (by omega) (by omega)]; exact E.out t (by omega) (by omega) (by omega)
  · rw [H.lo _ (by omega)]; exact E.fst t (by omega)
  · by_cases h : t < j
    · have := H.fst t (by omega)
      rw [at_eq r (show m - i + (m + j - m) + t = m - (i - j) + t by omega), this]
      exact E.snd t h
    · have := H.snd (t - j) (by omega)
      rw [at_eq r (show m - i + (m + j - m) + t = m - (i - j) + (m + j - m) + (t - j) by omega), this, at_eq r1 (show m - (i - j) + (t - j) = m - i + t by omega)]
      exact E.out _ (by omega) (by omega) (by omega)
theorem Exch.rot_lt {d r1 r : Array Line} {i j m : Nat} (hij : i < j) (him : i ≤ m) (hm : m + j ≤ d.size) (E : Exch d (m - i) (m + j - i) i r1) (H : Rot r1 (m - i) m (m + (j - i)) r) : Rot d (m - i) m (m + j) r := by
  have hs := E.size
  refine ⟨by omega, by omega, hm, by rw [H.size, hs], fun t ht => ?_, fun t h1 h2 => ?_, fun t ht => ?_, fun t ht => ?_⟩
  · rw [H.lo t (by omega)]; exact E.out t (by omega) (by omega) (by omega)
  · rw [H.hi t (by omega) (by omega)]; exact E.out t (by omega) (by omega) (by omega)
  · by_cases h : t < j - i
    · rw [H.fst t (by omega)]; exact E.out _ (by omega) (by omega) (by omega)
    · have := H.snd (t - (j - i)) (by omega)
      rw [at_eq r (show m - i + t = m - i + (m + (j - i) - m) + (t - (j - i)) by omega), this, E.fst _ (by omega)]
      exact at_eq d (by omega)
  · rw [at_eq r (show m - i + (m + j - m) + t = m + j - i + t by omega), H.hi _ (by omega) (by omega)]
    exact E.snd t (by omega)
theorem Exch.rot_eq {d r : Array Line} {i m : Nat} (him : i ≤ m) (hm : m + i ≤ d.size) (E : Exch d (m - i) m i r) : Rot d (m - i) m (m + i) r := by
  have hs := E.size
  refine ⟨by omega, by omega, hm, hs, fun t ht => E.out t (by omega) (by omega) (by omega), fun t h1 h2 => E.out t h2 (by omega) (by omega), fun t ht => E.fst t (by omega), fun t ht => ?_⟩
  rw [at_eq r (show m - i + (m + i - m) + t = m + t by omega)]
  exact E.snd t (by omega)

set_option maxHeartbeats 4000000 in
set_option maxRecDepth 1000000 in
theorem rotate_any {P : Program} {k : Nat} (L : Lay P k) (g : Nat) (cb : Array Value) (blk off cap a m b : Nat) (d0 d : Array Line) (w0 w : World)
    (R : RowK enc k w0 blk off d0) (hs : d0.size = d.size) (S : SWK enc k w0 blk off d w) (ham : a < m) (hmb : m < b) (hb : b ≤ d.size) (hsz : d.size < 4611686018427387904) :
    Calls P 89 #[.slice (some ⟨blk, off, none⟩) d.size cap, .int .i64 a, .int .i64 m, .int .i64 b, .func (.func g) #[] cb] w fun e w' =>
      e = .returned (.tuple #[]) ∧ ∃ r, Rot d a m b r ∧ SWK enc k w0 blk off r w' := by
  have mixed := L.mixed; have t0 := L.t0; have a0 := L.a0; have z0 := L.z0; have v0 := L.v0; have t3 := L.t3; have a3 := L.a3; have z3 := L.z3; have v3 := L.v3; have t4 := L.t4; have a4 := L.a4; have z4 := L.z4; have v4 := L.v4; have tu := L.tu; have au := L.au; have zu := L.zu; have vu := L.vu; have tl := L.tl; have al := L.al; have zl := L.zl; have aE := L.aE; have zE := L.zE; have af := L.af; have zf := L.zf
  have e1 : ∀ args w, (callFunc 96 args).run P w = .ok (.enter 96 args) w := enters_of L.f1 (by kernel_rfl) rfl
  have S0 : Aside (SWK enc k w0 blk off d w) := S
  have R0 : Hid (RowK enc k w0 blk off d0) := R
  have LL : Hid (Lay P k) := L
  clear S R
  go_enter L.f2, Tryd.ntmps89
  clear L
  go_wp2
  go_loopg [10, 11] (b - a) (fun kx s10 s11 wr => ∃ (i j : Nat) (dk : Array Line), s10 = .int .i64 i ∧ s11 = .int .i64 j ∧ 0 < i ∧ 0 < j ∧ a + i ≤ m ∧ m + j ≤ b ∧ i + j ≤ kx ∧ dk.size = d.size ∧ Aside (SWK enc k w0 blk off dk wr) ∧ Hid (∀ r, Rot dk (m - i) m (m + j) r → Rot d a m b r))
  case atStart => exact ⟨m - a, b - m, d, by go_num, by go_num, by omega, by omega, by omega, by omega, by omega, rfl, S0, fun r h => by rwa [show m - (m - a) = a by omega, show m + (b - m) = b by omega] at h⟩
  case round =>
    clear S0
    obtain ⟨i, j, dk, rfl, rfl, hi, hj, hai, hjb, hkx, hds, S1, E⟩ := hrel
    have wa : IntKind.i64.wrap ((m : Int) - (i : Int)) = ((m - i : Nat) : Int) := by rw [IntKind.wrap_i64]; omega
    by_cases heq : i = j
    · subst heq
      go_wp2_with fail
      have C := swapRange_any LL.out g cb blk off cap (m - i) m i d0 dk w0 wr R0.out (by omega) S1.out (by omega) (by omega) (by omega)
      rw [hds] at C
      go_wp2_with (first | (go_at_call 96; refine C.mono ?_; rintro e w9 ⟨rfl, r, hr, S9⟩; have hr9 : Hid _ := hr; have S99 : Aside _ := S9; clear hr S9))
      go_end0
      exact ⟨rfl, r, E.out r (hr9.out.rot_eq (by omega) (by omega)), S99.out⟩
    · have hne : ¬ (i : Int) = (j : Int) := by omega
      by_cases hgt : j < i
      · have hgtz : (j : Int) < (i : Int) := by omega
        have C := swapRange_any LL.out g cb blk off cap (m - i) m j d0 dk w0 wr R0.out (by omega) S1.out (by omega) (by omega) (by omega)
        rw [hds] at C
        go_wp2_with (first | (go_at_call 96; refine C.mono ?_; rintro e w9 ⟨rfl, r, hr, S9⟩; have hr9 : Hid _ := hr; have S99 : Aside _ := S9; clear hr S9))
        go_roundg (i - j + j)
        case measure => omega
        case rel => exact ⟨i - j, j, r, by go_num, rfl, by omega, hj, by omega, hjb, by omega, by rw [hr9.out.size]; exact hds, S99, fun q hq => E.out q (hr9.out.rot_gt hgt (by omega) (by omega) hq)⟩
      · have hgtz : ¬ (j : Int) < (i : Int) := by omega
        have wb : IntKind.i64.wrap ((m : Int) + (j : Int)) = (m : Int) + (j : Int) := by rw [IntKind.wrap_i64]; omega
        have wc : IntKind.i64.wrap ((m : Int) + (j : Int) - (i : Int)) = ((m + j - i : Nat) : Int) := by rw [IntKind.wrap_i64]; omega
        have C := swapRange_any LL.out g cb blk off cap (m - i) (m + j - i) i d0 dk w0 wr R0.out (by omega) S1.out (by omega) (by omega) (by omega)
        rw [hds] at C
        go_wp2_with (first | (go_at_call 96; refine C.mono ?_; rintro e w9 ⟨rfl, r, hr, S9⟩; have hr9 : Hid _ := hr; have S99 : Aside _ := S9; clear hr S9))
        go_roundg (i + (j - i))
        case measure => omega
        case rel => exact ⟨i, j - i, r, rfl, by go_num, hi, by omega, hai, by omega, by omega, by rw [hr9.out.size]; exact hds, S99, fun q hq => E.out q (hr9.out.rot_lt (by omega) (by omega) (by omega) hq)⟩

end Go.Proofs.YtolobnokpmbajaaDoor
