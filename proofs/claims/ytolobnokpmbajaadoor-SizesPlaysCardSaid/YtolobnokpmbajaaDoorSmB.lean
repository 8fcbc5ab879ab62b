/-
  slices.symMergeCmpFunc at lines: a theorem for each way through what follows the search.
-/
import Derived.Test.YtolobnokpmbajaaDoorSmerge
import Derived.Deep.DeepCutAuto
namespace Go.Proofs.YtolobnokpmbajaaDoor
open Go.Shelf Go.RowKit Go.Lib Go.Sort Go.Proofs St

set_option maxHeartbeats 4000000 in
set_option maxRecDepth 1000000 in
theorem sym_A01 {P : Program} {k : Nat} (L : Lay P k) (g : Nat) (cb : Array Value) (blk off cap : Nat) (d0 : Array Line) (w0 : World)
    (eg : ∀ args w, (callFunc g args).run P w = .ok (.enter g args) w) (hcmp : CmpLays P g cb enc k cf blk off d0.size w0)
    (R : RowK enc k w0 blk off d0) (hsz : d0.size < 4611686018427387904) (N a m b mid st r0 s en : Nat) (d : Array Line) (w : World) (hN : b - a ≤ N + 1)
    (hs : d0.size = d.size) (S : SWK enc k w0 blk off d w) (B : Bd a m b mid st r0) (F : Fnd d (mid + m - 1) st s s r0) (hst : st ≤ s) (hsr : s ≤ r0) (hen : en = mid + m - s) (hb : b ≤ d.size) (hl : Srt d a m) (hr : Srt d m b)
    (ih : SymAt P k g cb blk off cap w0 d0 N) (k1 : s < m) (k2 : m < en) (k3 : s ≤ a) (k4 : en < b) :
    Calls P 80 #[.slice (some ⟨blk, off, none⟩) d.size cap, .int .i64 a, .int .i64 m, .int .i64 b, .func (.func g) #[] cb] w fun e w' =>
      e = .returned (.tuple #[]) ∧ ∃ r, (Mg a b d r ∧ Srt r a b) ∧ SWK enc k w0 blk off r w' := by
  have mixed := L.mixed; have t0 := L.t0; have a0 := L.a0; have z0 := L.z0; have v0 := L.v0; have t3 := L.t3; have a3 := L.a3; have z3 := L.z3; have v3 := L.v3; have t4 := L.t4; have a4 := L.a4; have z4 := L.z4; have v4 := L.v4; have tu := L.tu; have au := L.au; have zu := L.zu; have vu := L.vu; have tl := L.tl; have al := L.al; have zl := L.zl; have aE := L.aE; have zE := L.zE; have af := L.af; have zf := L.zf
  have ul := run_underlying L.tl; have u3 := run_underlying L.t3; have uu := run_underlying L.tu; have u4 := run_underlying L.t4
  have e2 : ∀ args w, (callFunc 89 args).run P w = .ok (.enter 89 args) w := enters_of L.f2 (by kernel_rfl) rfl
  have e3 : ∀ args w, (callFunc 80 args).run P w = .ok (.enter 80 args) w := enters_of L.f3 (by kernel_rfl) rfl
  have S0 : Aside (SWK enc k w0 blk off d w) := S
  have R0 : Hid (RowK enc k w0 blk off d0) := R
  have HC : Hid (CmpLays P g cb enc k cf blk off d0.size w0) := hcmp
  have SL : Hid (Srt d a m) := hl
  have SR : Hid (Srt d m b) := hr
  have LL : Hid (Lay P k) := L
  have IH : Hid (SymAt P k g cb blk off cap w0 d0 N) := ih
  have BD : Hid (Bd a m b mid st r0) := B
  have FS : Hid (Fnd d (mid + m - 1) st s s r0) := F
  have CT : Hid (Cut d a s m en b mid) := by rw [hen]; exact F.cut B hl hr hst hsr
  have ham := B.am; have hmb := B.mb; have hmid := B.md
  obtain ⟨n1, n2, n3, n4, n5, n6, hmid1, hmid2⟩ := B.num
  have hmz : ((m : Int) - (a : Int) == 1) = false := by rw [beq_eq_false_iff_ne]; omega
  have hmz' : ¬ (m : Int) - (a : Int) = 1 := by omega
  have hbz : ((b : Int) - (m : Int) == 1) = false := by rw [beq_eq_false_iff_ne]; omega
  have hbz' : ¬ (b : Int) - (m : Int) = 1 := by omega
  have midz : ((a : Int) + (b : Int)) / 2 = (mid : Int) := by omega
  have hen1 : m ≤ en := by omega
  have hen2 : en ≤ b := by omega
  have hen3 : mid ≤ en := by omega
  have wen : IntKind.i64.wrap ((mid : Int) + (m : Int) - (s : Int)) = (en : Int) := by rw [IntKind.wrap_i64]; omega
  clear S R hcmp hl hr ih B F hmid hen
  go_enter L.f3, Tryd.ntmps80
  clear L
  go_upto_if 140 with fail
  go_cut [20, 21] (fun s20 s21 wx => s20 = .int .i64 st ∧ s21 = .int .i64 r0 ∧ wx = w)
  case first =>
    by_cases hm : mid < m
    · have hmz1 : (mid : Int) < (m : Int) := by omega
      go_wp2
      all_goals (
        go_meet
        rcases BD.out.str with ⟨h1, h2, h3⟩ | ⟨h1, h2, h3⟩
        · rw [h2, h3]; exact ⟨by have := BD.out.md; go_num, rfl, rfl⟩
        · omega)
    · have hmz1 : ¬ (mid : Int) < (m : Int) := by omega
      go_wp2
      all_goals (
        go_meet
        rcases BD.out.str with ⟨h1, h2, h3⟩ | ⟨h1, h2, h3⟩
        · omega
        · rw [h2, h3]; exact ⟨rfl, rfl, rfl⟩)
  case rest =>
  obtain ⟨rfl, rfl, rfl⟩ := hcut
  go_wp2
  go_loopg [20, 21] (b - a) (fun kx s20 s21 wr => ∃ lo hi : Nat, s20 = .int .i64 lo ∧ s21 = .int .i64 hi ∧ st ≤ lo ∧ lo ≤ hi ∧ hi ≤ r0 ∧ hi - lo ≤ kx ∧ Aside (SWK enc k w0 blk off d wr) ∧ Hid (Fnd d (mid + m - 1) st lo hi r0))
  case atStart => exact ⟨st, r0, rfl, rfl, Nat.le_refl _, by omega, Nat.le_refl _, by omega, S0, ⟨fun t h1 h2 => by omega, fun t h1 h2 => by omega⟩⟩
  case round =>
    clear S0
    obtain ⟨lo, hi, rfl, rfl, hal, hlh, hib, hkx, S1, I⟩ := hrel
    by_cases hlt : lo < hi
    · have hltz : (lo : Int) < (hi : Int) := by omega
      obtain ⟨h, hh⟩ : ∃ h, h = (lo + hi) / 2 := ⟨_, rfl⟩
      have e2 : ((lo : Int) + (hi : Int)) / 2 = (h : Int) := by omega
      have hlo : lo ≤ h := by omega
      have hhi : h < hi := by omega
      have bh : (h : Int) < (d.size : Int) := by omega
      obtain ⟨q, hq⟩ : ∃ q, q = mid + m - 1 - h := ⟨_, rfl⟩
      have wq : IntKind.i64.wrap ((mid : Int) + (m : Int) - 1 - (h : Int)) = (q : Int) := by rw [IntKind.wrap_i64]; omega
      have bq : (q : Int) < (d.size : Int) := by omega
      have l1 := S1.out.ld R0.out (by omega) P h (by omega)
      have l2 := S1.out.ld R0.out (by omega) P q (by omega)
      have hc := S1.out.cmp HC.out (by omega) d[q]! d[h]!
      have G : Aside (∀ n os, SWK enc k w0 blk off d (grow (wr.drewN n) os)) := fun n os => S1.out.grown n os
      have Q : Hid (q = mid + m - 1 - h) := hq
      clear S1 hh hq
      by_cases hcc : cf d[q]! d[h]! < 0
      · go_wp2_with fail
        go_quiet_grown (first | (go_at_fn g; refine Calls.grown_of (hc _ _)))
        go_wp2
        go_roundg (h - lo)
        case measure => omega
        case rel =>
          have hn : d[mid + m - 1 - h]!.name < d[h]!.name := by rw [← Q.out]; exact (cf_lt _ _).1 hcc
          exact ⟨lo, h, rfl, by first | rfl | go_num, hal, by omega, by omega, by omega, G.out nq osq, I.out.less BD.out SL.out SR.out hal hlo hhi hib hn⟩
      · go_wp2_with fail
        go_quiet_grown (first | (go_at_fn g; refine Calls.grown_of (hc _ _)))
        go_wp2
        go_roundg (hi - (h + 1))
        case measure => omega
        case rel =>
          have hn : ¬ d[mid + m - 1 - h]!.name < d[h]!.name := by rw [← Q.out]; exact fun x => by have := (cf_lt _ _).2 x; omega
          exact ⟨h + 1, hi, by go_num, rfl, by omega, by omega, hib, by omega, G.out nq osq, I.out.more BD.out SL.out SR.out hal hlo hhi hib hn⟩
        all_goals (rename_i hx; exfalso; rw [decide_eq_false (by omega)] at hx; cases hx)
    · have hltz : ¬ (lo : Int) < (hi : Int) := by omega
      obtain rfl : hi = lo := by omega
      obtain rfl : hi = s := Fnd.same I.out FS.out hal hib hst hsr
      have k5 := CT.out.md
      have z1 : (hi : Int) < (m : Int) := by omega
      have z2 : (m : Int) < (en : Int) := by omega
      have z3 : ¬ (a : Int) < (hi : Int) := by omega
      have z4 : (hi : Int) < (mid : Int) := by omega
      have z5 : (mid : Int) < (en : Int) := by omega
      have z6 : (en : Int) < (b : Int) := by omega
      have C0 := rotate_any LL.out g cb blk off cap hi m en d0 d w0 wr R0.out hs S1.out (by omega) (by omega) (by omega) (by omega)
      go_wp2_with (first | (go_at_call 89; refine C0.mono ?_; clear C0; rintro e w1 ⟨rfl, r1, hr1, S2⟩; have HF : Hid (Half d a hi mid en b r1) := CT.out.half hb hr1; have S3 : Aside (SWK enc k w0 blk off r1 w1) := S2; have hz1 : Hid (r1.size = d.size) := hr1.size; clear S2 hr1))
      obtain ⟨r2, hr2⟩ : ∃ r2, r2 = r1 := ⟨_, rfl⟩
      have M1 : Hid (Mg a mid r1 r2 ∧ Srt r2 a mid) := by rw [hr2]; exact HF.out.left (by omega)
      have S5 : Aside (SWK enc k w0 blk off r2 w1) := by rw [hr2]; exact S3
      have hz2 : Hid (r2.size = d.size) := by (show _ = _; rw [hr2]; exact hz1.out)
      clear hr2
      have C2 := IH.out mid en b r2 w1 (by omega) (by rw [hz2.out]; exact hs) S5.out (by omega) (by omega) (by rw [hz2.out]; exact hb) (HF.out.right hb M1.out.1).1 (HF.out.right hb M1.out.1).2
      rw [hz2.out] at C2
      go_wp2_with (first | (go_at_call 80; refine C2.mono ?_; clear C2; rintro e w3 ⟨rfl, r3, hr3, S6⟩; have M2 : Hid (Mg mid b r2 r3 ∧ Srt r3 mid b) := hr3; have S7 : Aside (SWK enc k w0 blk off r3 w3) := S6; clear S6 hr3))
      go_end0
      exact ⟨rfl, r3, HF.out.done hb M1.out M2.out, S7.out⟩

set_option maxHeartbeats 4000000 in
set_option maxRecDepth 1000000 in
theorem sym_A00 {P : Program} {k : Nat} (L : Lay P k) (g : Nat) (cb : Array Value) (blk off cap : Nat) (d0 : Array Line) (w0 : World)
    (eg : ∀ args w, (callFunc g args).run P w = .ok (.enter g args) w) (hcmp : CmpLays P g cb enc k cf blk off d0.size w0)
    (R : RowK enc k w0 blk off d0) (hsz : d0.size < 4611686018427387904) (N a m b mid st r0 s en : Nat) (d : Array Line) (w : World) (hN : b - a ≤ N + 1)
    (hs : d0.size = d.size) (S : SWK enc k w0 blk off d w) (B : Bd a m b mid st r0) (F : Fnd d (mid + m - 1) st s s r0) (hst : st ≤ s) (hsr : s ≤ r0) (hen : en = mid + m - s) (hb : b ≤ d.size) (hl : Srt d a m) (hr : Srt d m b)
    (ih : SymAt P k g cb blk off cap w0 d0 N) (k1 : s < m) (k2 : m < en) (k3 : s ≤ a) (k4 : b ≤ en) :
    Calls P 80 #[.slice (some ⟨blk, off, none⟩) d.size cap, .int .i64 a, .int .i64 m, .int .i64 b, .func (.func g) #[] cb] w fun e w' =>
      e = .returned (.tuple #[]) ∧ ∃ r, (Mg a b d r ∧ Srt r a b) ∧ SWK enc k w0 blk off r w' := by
  have mixed := L.mixed; have t0 := L.t0; have a0 := L.a0; have z0 := L.z0; have v0 := L.v0; have t3 := L.t3; have a3 := L.a3; have z3 := L.z3; have v3 := L.v3; have t4 := L.t4; have a4 := L.a4; have z4 := L.z4; have v4 := L.v4; have tu := L.tu; have au := L.au; have zu := L.zu; have vu := L.vu; have tl := L.tl; have al := L.al; have zl := L.zl; have aE := L.aE; have zE := L.zE; have af := L.af; have zf := L.zf
  have ul := run_underlying L.tl; have u3 := run_underlying L.t3; have uu := run_underlying L.tu; have u4 := run_underlying L.t4
  have e2 : ∀ args w, (callFunc 89 args).run P w = .ok (.enter 89 args) w := enters_of L.f2 (by kernel_rfl) rfl
  have e3 : ∀ args w, (callFunc 80 args).run P w = .ok (.enter 80 args) w := enters_of L.f3 (by kernel_rfl) rfl
  have S0 : Aside (SWK enc k w0 blk off d w) := S
  have R0 : Hid (RowK enc k w0 blk off d0) := R
  have HC : Hid (CmpLays P g cb enc k cf blk off d0.size w0) := hcmp
  have SL : Hid (Srt d a m) := hl
  have SR : Hid (Srt d m b) := hr
  have LL : Hid (Lay P k) := L
  have IH : Hid (SymAt P k g cb blk off cap w0 d0 N) := ih
  have BD : Hid (Bd a m b mid st r0) := B
  have FS : Hid (Fnd d (mid + m - 1) st s s r0) := F
  have CT : Hid (Cut d a s m en b mid) := by rw [hen]; exact F.cut B hl hr hst hsr
  have ham := B.am; have hmb := B.mb; have hmid := B.md
  obtain ⟨n1, n2, n3, n4, n5, n6, hmid1, hmid2⟩ := B.num
  have hmz : ((m : Int) - (a : Int) == 1) = false := by rw [beq_eq_false_iff_ne]; omega
  have hmz' : ¬ (m : Int) - (a : Int) = 1 := by omega
  have hbz : ((b : Int) - (m : Int) == 1) = false := by rw [beq_eq_false_iff_ne]; omega
  have hbz' : ¬ (b : Int) - (m : Int) = 1 := by omega
  have midz : ((a : Int) + (b : Int)) / 2 = (mid : Int) := by omega
  have hen1 : m ≤ en := by omega
  have hen2 : en ≤ b := by omega
  have hen3 : mid ≤ en := by omega
  have wen : IntKind.i64.wrap ((mid : Int) + (m : Int) - (s : Int)) = (en : Int) := by rw [IntKind.wrap_i64]; omega
  clear S R hcmp hl hr ih B F hmid hen
  go_enter L.f3, Tryd.ntmps80
  clear L
  go_upto_if 140 with fail
  go_cut [20, 21] (fun s20 s21 wx => s20 = .int .i64 st ∧ s21 = .int .i64 r0 ∧ wx = w)
  case first =>
    by_cases hm : mid < m
    · have hmz1 : (mid : Int) < (m : Int) := by omega
      go_wp2
      all_goals (
        go_meet
        rcases BD.out.str with ⟨h1, h2, h3⟩ | ⟨h1, h2, h3⟩
        · rw [h2, h3]; exact ⟨by have := BD.out.md; go_num, rfl, rfl⟩
        · omega)
    · have hmz1 : ¬ (mid : Int) < (m : Int) := by omega
      go_wp2
      all_goals (
        go_meet
        rcases BD.out.str with ⟨h1, h2, h3⟩ | ⟨h1, h2, h3⟩
        · omega
        · rw [h2, h3]; exact ⟨rfl, rfl, rfl⟩)
  case rest =>
  obtain ⟨rfl, rfl, rfl⟩ := hcut
  go_wp2
  go_loopg [20, 21] (b - a) (fun kx s20 s21 wr => ∃ lo hi : Nat, s20 = .int .i64 lo ∧ s21 = .int .i64 hi ∧ st ≤ lo ∧ lo ≤ hi ∧ hi ≤ r0 ∧ hi - lo ≤ kx ∧ Aside (SWK enc k w0 blk off d wr) ∧ Hid (Fnd d (mid + m - 1) st lo hi r0))
  case atStart => exact ⟨st, r0, rfl, rfl, Nat.le_refl _, by omega, Nat.le_refl _, by omega, S0, ⟨fun t h1 h2 => by omega, fun t h1 h2 => by omega⟩⟩
  case round =>
    clear S0
    obtain ⟨lo, hi, rfl, rfl, hal, hlh, hib, hkx, S1, I⟩ := hrel
    by_cases hlt : lo < hi
    · have hltz : (lo : Int) < (hi : Int) := by omega
      obtain ⟨h, hh⟩ : ∃ h, h = (lo + hi) / 2 := ⟨_, rfl⟩
      have e2 : ((lo : Int) + (hi : Int)) / 2 = (h : Int) := by omega
      have hlo : lo ≤ h := by omega
      have hhi : h < hi := by omega
      have bh : (h : Int) < (d.size : Int) := by omega
      obtain ⟨q, hq⟩ : ∃ q, q = mid + m - 1 - h := ⟨_, rfl⟩
      have wq : IntKind.i64.wrap ((mid : Int) + (m : Int) - 1 - (h : Int)) = (q : Int) := by rw [IntKind.wrap_i64]; omega
      have bq : (q : Int) < (d.size : Int) := by omega
      have l1 := S1.out.ld R0.out (by omega) P h (by omega)
      have l2 := S1.out.ld R0.out (by omega) P q (by omega)
      have hc := S1.out.cmp HC.out (by omega) d[q]! d[h]!
      have G : Aside (∀ n os, SWK enc k w0 blk off d (grow (wr.drewN n) os)) := fun n os => S1.out.grown n os
      have Q : Hid (q = mid + m - 1 - h) := hq
      clear S1 hh hq
      by_cases hcc : cf d[q]! d[h]! < 0
      · go_wp2_with fail
        go_quiet_grown (first | (go_at_fn g; refine Calls.grown_of (hc _ _)))
        go_wp2
        go_roundg (h - lo)
        case measure => omega
        case rel =>
          have hn : d[mid + m - 1 - h]!.name < d[h]!.name := by rw [← Q.out]; exact (cf_lt _ _).1 hcc
          exact ⟨lo, h, rfl, by first | rfl | go_num, hal, by omega, by omega, by omega, G.out nq osq, I.out.less BD.out SL.out SR.out hal hlo hhi hib hn⟩
      · go_wp2_with fail
        go_quiet_grown (first | (go_at_fn g; refine Calls.grown_of (hc _ _)))
        go_wp2
        go_roundg (hi - (h + 1))
        case measure => omega
        case rel =>
          have hn : ¬ d[mid + m - 1 - h]!.name < d[h]!.name := by rw [← Q.out]; exact fun x => by have := (cf_lt _ _).2 x; omega
          exact ⟨h + 1, hi, by go_num, rfl, by omega, by omega, hib, by omega, G.out nq osq, I.out.more BD.out SL.out SR.out hal hlo hhi hib hn⟩
        all_goals (rename_i hx; exfalso; rw [decide_eq_false (by omega)] at hx; cases hx)
    · have hltz : ¬ (lo : Int) < (hi : Int) := by omega
      obtain rfl : hi = lo := by omega
      obtain rfl : hi = s := Fnd.same I.out FS.out hal hib hst hsr
      have k5 := CT.out.md
      have z1 : (hi : Int) < (m : Int) := by omega
      have z2 : (m : Int) < (en : Int) := by omega
      have z3 : ¬ (a : Int) < (hi : Int) := by omega
      have z4 : (hi : Int) < (mid : Int) := by omega
      have z5 : (mid : Int) < (en : Int) := by omega
      have z6 : ¬ (en : Int) < (b : Int) := by omega
      have C0 := rotate_any LL.out g cb blk off cap hi m en d0 d w0 wr R0.out hs S1.out (by omega) (by omega) (by omega) (by omega)
      go_wp2_with (first | (go_at_call 89; refine C0.mono ?_; clear C0; rintro e w1 ⟨rfl, r1, hr1, S2⟩; have HF : Hid (Half d a hi mid en b r1) := CT.out.half hb hr1; have S3 : Aside (SWK enc k w0 blk off r1 w1) := S2; have hz1 : Hid (r1.size = d.size) := hr1.size; clear S2 hr1))
      obtain ⟨r2, hr2⟩ : ∃ r2, r2 = r1 := ⟨_, rfl⟩
      have M1 : Hid (Mg a mid r1 r2 ∧ Srt r2 a mid) := by rw [hr2]; exact HF.out.left (by omega)
      have S5 : Aside (SWK enc k w0 blk off r2 w1) := by rw [hr2]; exact S3
      have hz2 : Hid (r2.size = d.size) := by (show _ = _; rw [hr2]; exact hz1.out)
      clear hr2
      all_goals try go_wp2
      go_end0
      exact ⟨rfl, r2, HF.out.done hb M1.out (HF.out.right_done hb M1.out.1 (by omega)), S5.out⟩

end Go.Proofs.YtolobnokpmbajaaDoor
