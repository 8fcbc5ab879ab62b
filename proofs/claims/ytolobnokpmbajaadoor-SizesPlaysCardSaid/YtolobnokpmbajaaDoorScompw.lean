/-
  slices.CompactFunc at lines.
-/
import Derived.Test.YtolobnokpmbajaaDoorScomp
import Derived.Lib.SliceRun
namespace Go.Proofs.YtolobnokpmbajaaDoor
open Go.Shelf Go.RowKit Go.Lib Go.Sort Go.Proofs St

/-- 'clear' of what lies from i on -/
theorem clear_row {P : Program} {k : Nat} {W w0 : World} {blk off : Nat} {dk d0 : Array Line} (tl : P.underlying 22 = some (TypeDesc.slice 30)) (vE : ∀ w, (zeroValue 30).run P w = .ok (.agg (enc default).toArray) w)
    (R : RowK enc k w0 blk off d0) (hs : dk.size = d0.size) (S : SWK enc k w0 blk off dk W) (i c : Nat) (hi : i < dk.size) :
    ∃ zs : List Value, (∀ ty, (Builtin.clear_ #[22] ty #[.slice (some ⟨blk, off + i * k, none⟩) (dk.size - i) c]).run P W = .ok (.tuple #[]) (W.setCells blk (off + i * k) zs)) ∧ SWK enc k w0 blk off (clr dk i) (W.setCells blk (off + i * k) zs) := by
  obtain ⟨zs, hzs⟩ : ∃ zs, zs = (Builtin.zeroCells (Value.agg (enc default).toArray).cells (dk.size - i)).toList := ⟨_, rfl⟩
  have hk := R.hk default
  have hcells : (Value.agg (enc default).toArray).cells = (enc default).toArray := rfl
  have hl : zs.length = (dk.size - i) * k := by
    rw [hzs, hcells]; simp [Builtin.zeroCells, hk]
  have hg : ∀ t, t < zs.length → zs[t]! = (enc default)[t % k]! := by
    intro t ht
    have ht' : t < (dk.size - i) * k := by rw [← hl]; exact ht
    rw [hzs, hcells]
    simp [Builtin.zeroCells, hk, ht']
  have h1 : ∀ v ∈ zs, v.oneCell' = true := by
    intro v hv
    obtain ⟨t, ht, e⟩ := List.getElem_of_mem hv
    have h2 := hg t ht
    rw [getElem!_pos zs t ht, e] at h2
    have ht' : t < (dk.size - i) * k := by rw [← hl]; exact ht
    have k0 : 0 < k := by rcases Nat.eq_zero_or_pos k with h | h; · subst h; simp at ht'
                          · exact h
    have hm : t % k < (enc default).length := by rw [hk]; exact Nat.mod_lt _ k0
    rw [getElem!_pos (enc default) _ hm] at h2
    rw [h2]
    exact R.h1 default _ (List.getElem_mem hm)
  have hb : i * k + zs.length ≤ dk.size * k := by rw [hl, ← Nat.add_mul]; exact Nat.mul_le_mul_right k (by omega)
  have hst := stores_of_holds P (S.holds R.hblk R.hH hs) (i * k) zs (by rw [size_flatK]; exact hb) h1
  refine ⟨zs, fun ty => ?_, swk_stored S R.hblk (i * k) zs hb (flat_clr R.hk dk i zs (by omega) hl hg)⟩
  obtain ⟨m, hm⟩ : ∃ m, dk.size - i = m + 1 := ⟨dk.size - i - 1, by omega⟩
  rw [hm] at hzs ⊢
  simp [Builtin.clear_, run_underlying tl, vE, ← hzs, hst]

set_option maxHeartbeats 4000000 in
set_option maxRecDepth 1000000 in
theorem compact_any {P : Program} {k : Nat} (L : Lay P k) (fc : P.funcs[(39 : Nat)]? = some Tryd.f39)
    (vE : ∀ w, (zeroValue 30).run P w = .ok (.agg (enc default).toArray) w) (ag : ∀ w, (isAgg 66).run P w = .ok false w) (zg : ∀ w, (Go.sizeOf 66).run P w = .ok 1 w)
    (g : Nat) (cb : Array Value) (blk off cap n : Nat) (d : Array Line) (w : World) (eg : ∀ args w, (callFunc g args).run P w = .ok (.enter g args) w)
    (heq : ∀ (x y : Line) (W : World), Calls P g (#[.agg (enc x).toArray, .agg (enc y).toArray] ++ cb) W fun e w' => e = .returned (.bool (decide (x.name = y.name))) ∧ ∃ q os', w' = grow (W.drewN q) os')
    (R : RowK enc k w blk off d) (hn : n = d.size) (hcap : n ≤ cap) (hsz : n < 1000000000000) (hcm : cap ≤ 9223372036854775807) :
    Calls P 39 #[.slice (some ⟨blk, off, none⟩) n cap, .func (.func g) #[] cb] w fun e w' =>
      e = .returned (.slice (some ⟨blk, off, none⟩) (compact d.toList).length cap) ∧ ∃ r, (r.size = d.size ∧ r.toList.take (compact d.toList).length = compact d.toList) ∧ SWK enc k w blk off r w' := by
  have mixed := L.mixed; have t0 := L.t0; have a0 := L.a0; have z0 := L.z0; have v0 := L.v0; have t3 := L.t3; have a3 := L.a3; have z3 := L.z3; have v3 := L.v3; have t4 := L.t4; have a4 := L.a4; have z4 := L.z4; have v4 := L.v4; have tl := L.tl; have al := L.al; have zl := L.zl; have aE := L.aE; have zE := L.zE
  have ul := run_underlying L.tl; have u3 := run_underlying L.t3; have u4 := run_underlying L.t4
  have S0 : Aside (SWK enc k w blk off d w) := SWK.start R.hH
  have R0 : Hid (RowK enc k w blk off d) := R
  have HN : Hid (n = d.size) := hn
  have HE : Aside _ := heq
  have HV : Hid (∀ w, (zeroValue 30).run P w = .ok (.agg (enc default).toArray) w) := vE
  clear R hn heq vE
  by_cases hn2 : n < 2
  · have hnz : (n : Int) < 2 := by omega
    have hc : Hid (compact d.toList = d.toList ∧ d.toList.length = n) := by
      have e : d.toList.length = n := by rw [Array.length_toList]; exact HN.out.symm
      refine ⟨?_, e⟩
      generalize d.toList = l at e
      match l, e with
      | [], _ => rfl
      | [x], _ => rfl
      | _ :: _ :: _, e => simp at e; omega
    go_enter fc, Tryd.ntmps39
    go_wp2
    go_ret
    rw [hc.out.1, hc.out.2]
    exact ⟨rfl, d, ⟨rfl, by rw [List.take_of_length_le (by rw [hc.out.2]; exact Nat.le_refl _)]⟩, S0.out⟩
  · have hnz : ¬ (n : Int) < 2 := by omega
    go_enter fc, Tryd.ntmps39
    go_wp2
    go_loopg [5] n (fun kx s5 wr => ∃ j : Nat, s5 = .int .i64 j ∧ 1 ≤ j ∧ j ≤ n ∧ n - j ≤ kx ∧ Aside (SWK enc k w blk off d wr) ∧ Hid (compact (d.toList.take j) = d.toList.take j))
    case atStart =>
      refine ⟨1, rfl, Nat.le_refl _, by omega, by omega, S0, ?_⟩
      have h1 : 0 < d.size := by have := HN.out; omega
      show _ = _
      rw [take_next d h1]; rfl
    case round =>
      clear S0
      obtain ⟨j, rfl, hj1, hjn, hkx, S1, I⟩ := hrel
      by_cases hlt : j < n
      · have hltz : (j : Int) < (n : Int) := by omega
        obtain ⟨i, rfl⟩ : ∃ i, j = i + 1 := ⟨j - 1, by omega⟩
        have e1 : ((i : Int) + 1).toNat = i + 1 := by omega
        have p1 : (0 : Int) ≤ (i : Int) + 1 := by omega
        have b1 : (i : Int) + 1 < (n : Int) := by omega
        have b2 : (i : Int) < (n : Int) := by omega
        have wi : IntKind.i64.wrap ((i : Int)) = (i : Int) := by rw [IntKind.wrap_i64]; omega
        have hds : Hid (i + 1 < d.size) := by have := HN.out; show i + 1 < d.size; omega
        have l1 := S1.out.ld R0.out rfl P (i + 1) hds.out
        have l2 := S1.out.ld R0.out rfl P i (Nat.lt_of_succ_lt hds.out)
        have hc := fun n' os' => HE.out d[i + 1]! d[i]! (grow (wr.drewN n') os')
        have G : Aside (∀ n os, SWK enc k w blk off d (grow (wr.drewN n) os)) := fun n os => S1.out.grown n os
        clear S1
        by_cases hcc : d[i + 1]!.name = d[i]!.name
        · have hcd : decide (d[i + 1]!.name = d[i]!.name) = true := decide_eq_true hcc
          have CI : Hid (CompInv d (i + 2) (i + 1) d) := CompInv.start (by omega) hds.out I.out (by simpa using hcc)
          rw [hcd] at hc
          clear hcc hcd
          go_wp2_with fail
          go_quiet_grown (first | (go_at_fn g; refine Calls.grown_of (hc _ _)))
          clear hc l1 l2
          have S2 : Aside (SWK enc k w blk off d (grow (wr.drewN nq) osq)) := G.out nq osq
          clear G
          generalize grow (wr.drewN nq) osq = W2 at S2 ⊢
          go_wp2
          go_loopg [5, 7] n (fun kx s5 s7 wr => ∃ (kk k2 : Nat) (dk : Array Line), s5 = .int .i64 kk ∧ s7 = .int .i64 k2 ∧ 1 ≤ k2 ∧ i + 1 + k2 ≤ n ∧ kk < i + 1 + k2 ∧ n - k2 ≤ kx ∧ Aside (SWK enc k w blk off dk wr) ∧ Hid (CompInv d (i + 1 + k2) kk dk))
          case atStart => exact ⟨i + 1, 1, d, by go_num, rfl, Nat.le_refl _, by omega, by omega, by omega, S2, CI⟩
          case round =>
            clear S2
            obtain ⟨kk, k2, dk, rfl, rfl, hk21, hk2n, hkkp, hkx2, S3, J⟩ := hrel
            have hdz : Hid (dk.size = d.size) := J.out.size
            have hkd : Hid (i + 1 + k2 ≤ d.size) := J.out.le
            by_cases hlt2 : i + 1 + k2 < n
            · obtain ⟨q, rfl⟩ : ∃ q, k2 = q + 1 := ⟨k2 - 1, by omega⟩
              have hz2 : (q : Int) + 1 < (n : Int) - ((i : Int) + 1) := by omega
              have hp : Hid (i + 1 + (q + 1) < d.size) := by have := HN.out; show i + 1 + (q + 1) < d.size; omega
              have hz3 : (q : Int) + 1 < ((n - (i + 1) : Nat) : Int) := by omega
              have hz4 : (q : Int) < ((n - (i + 1) : Nat) : Int) := by omega
              have hz5 : (q : Int) < (n : Int) - ((i : Int) + 1) := by omega
              have f1 : ((q : Int) + 1).toNat = q + 1 := by omega
              have f2 : (0 : Int) ≤ (q : Int) + 1 := by omega
              have wq : IntKind.i64.wrap ((q : Int)) = (q : Int) := by rw [IntKind.wrap_i64]; omega
              have l1 := S3.out.ld R0.out hdz.out P (i + 1 + (q + 1)) (by rw [hdz.out]; exact hp.out)
              have l2 := S3.out.ld R0.out hdz.out P (i + 1 + q) (by rw [hdz.out]; exact Nat.lt_of_succ_lt hp.out)
              rw [Nat.add_mul (i + 1) (q + 1) k, ← Nat.add_assoc, J.out.hi (i + 1 + (q + 1)) (by omega) hp.out] at l1
              rw [Nat.add_mul (i + 1) q k, ← Nat.add_assoc, J.out.hi (i + 1 + q) (by omega) (Nat.lt_of_succ_lt hp.out)] at l2
              have hc := fun n' os' => HE.out d[i + 1 + (q + 1)]! d[i + 1 + q]! (grow (wr.drewN n') os')
              have G : Aside (∀ n os, SWK enc k w blk off dk (grow (wr.drewN n) os)) := fun n os => S3.out.grown n os
              clear S3
              by_cases hcc : d[i + 1 + (q + 1)]!.name = d[i + 1 + q]!.name
              · have J2 : Hid (CompInv d (i + 1 + (q + 2)) kk dk) := J.out.skip hp.out hcc
                rw [decide_eq_true hcc] at hc
                clear hcc
                go_wp2_with fail
                go_quiet_grown (first | (go_at_fn g; refine Calls.grown_of (hc _ _)))
                go_wp2
                go_roundg (n - (q + 2))
                case measure => omega
                case rel => exact ⟨kk, q + 2, dk, rfl, by go_num, by omega, by omega, by omega, by omega, G.out nq osq, J2⟩
              · have J2 : Hid (CompInv d (i + 1 + (q + 2)) (kk + 1) (dk.setIfInBounds kk d[i + 1 + (q + 1)]!)) := J.out.keep hp.out hcc
                rw [decide_eq_false hcc] at hc
                clear hcc
                go_wp2_with fail
                go_quiet_grown (first | (go_at_fn g; refine Calls.grown_of (hc _ _)))
                have S4 : Aside (SWK enc k w blk off dk (grow (wr.drewN nq) osq)) := G.out nq osq
                clear hc l1 l2 G
                generalize grow (wr.drewN nq) osq = W4 at S4 ⊢
                have l1 := S4.out.load R0.out hdz.out P (i + 1 + (q + 1)) (by rw [hdz.out]; exact hp.out)
                rw [Nat.add_mul (i + 1) (q + 1) k, ← Nat.add_assoc, J.out.hi (i + 1 + (q + 1)) (by omega) hp.out] at l1
                have hkk : kk < dk.size := by rw [hdz.out]; exact Nat.lt_of_lt_of_le hkkp hkd.out
                have s1 := stores_of_holds P (S4.out.holds R0.out.hblk R0.out.hH hdz.out) (kk * k) (enc d[i + 1 + (q + 1)]!) (by rw [R0.out.hk, size_flatK]; exact rowK_bnd dk k kk hkk) (R0.out.h1 _)
                have S5 : Aside (SWK enc k w blk off (dk.setIfInBounds kk d[i + 1 + (q + 1)]!) (W4.setCells blk (off + kk * k) (enc d[i + 1 + (q + 1)]!))) := swk_stored S4.out R0.out.hblk (kk * k) _ (by rw [R0.out.hk]; exact rowK_bnd dk k kk hkk) (flat_set R0.out.hk dk kk _ hkk)
                have n1 : (enc d[i + 1 + (q + 1)]!).length = k := R0.out.hk _
                clear hkk S4
                generalize enc d[i + 1 + (q + 1)]! = cJ at l1 s1 S5 n1
                generalize hW5 : W4.setCells blk (off + kk * k) cJ = W5 at s1 S5
                clear hW5
                go_wp2
                go_roundg (n - (q + 2))
                case measure => omega
                case rel => exact ⟨kk + 1, q + 2, _, by go_num, by go_num, by omega, by omega, by omega, by omega, S5, J2⟩
            · have hend : i + 1 + k2 = n := by omega
              have hz2 : ¬ (k2 : Int) < (n : Int) - ((i : Int) + 1) := by omega
              have hkn : kk < n := by omega
              have hdn : dk.size = n := hdz.out.trans HN.out.symm
              have J3 : Hid (dk.toList.take kk = compact d.toList) := by
                have h0 := J.out.lo
                have e : d.toList.take n = d.toList := List.take_of_length_le (by rw [Array.length_toList, ← HN.out]; exact Nat.le_refl _)
                rwa [hend, e] at h0
              obtain ⟨zs, CL, S6⟩ := clear_row (W := wr) tl HV.out R0.out hdz.out S3.out kk (cap - kk) (by omega)
              rw [hdn] at CL
              have S7 : Aside (SWK enc k w blk off (clr dk kk) (wr.setCells blk (off + kk * k) zs)) := S6
              clear S6 S3 hdn
              generalize wr.setCells blk (off + kk * k) zs = W7 at CL S7
              go_wp2
              go_ret
              have hlen : (compact d.toList).length = kk := by
                rw [← J3.out, List.length_take, Array.length_toList, hdz.out]; have := hkd.out; omega
              rw [hlen]
              refine ⟨rfl, clr dk kk, ⟨by rw [clr_size]; exact hdz.out, ?_⟩, S7.out⟩
              rw [← J3.out]
              exact clr_take dk kk
        · have hcd : decide (d[i + 1]!.name = d[i]!.name) = false := decide_eq_false hcc
          have I2 : Hid (compact (d.toList.take (i + 1 + 1)) = d.toList.take (i + 1 + 1)) := by
            show _ = _
            rw [compact_other d (by omega) hds.out (by simpa using hcc), I.out, ← take_next d hds.out]
          rw [hcd] at hc
          clear hcc hcd
          go_wp2_with fail
          go_quiet_grown (first | (go_at_fn g; refine Calls.grown_of (hc _ _)))
          go_wp2
          go_roundg (n - (i + 2))
          case measure => omega
          case rel => exact ⟨i + 1 + 1, by go_num, by omega, by omega, by omega, G.out nq osq, I2⟩
      · have hltz : ¬ (j : Int) < (n : Int) := by omega
        go_wp2
        go_ret
        have e : d.toList.take j = d.toList := List.take_of_length_le (by rw [Array.length_toList, ← HN.out]; omega)
        have h := I.out
        rw [e] at h
        rw [h, Array.length_toList, ← HN.out]
        exact ⟨rfl, d, ⟨HN.out.symm ▸ rfl, by rw [List.take_of_length_le (by rw [Array.length_toList, ← HN.out]; exact Nat.le_refl _)]⟩, S1.out⟩

end Go.Proofs.YtolobnokpmbajaaDoor
