/-
  slices.symMergeCmpFunc at lines where one of the two parts is one line.
-/
import Derived.Test.YtolobnokpmbajaaDoorSrot
namespace Go.Proofs.YtolobnokpmbajaaDoor
open Go.Shelf Go.RowKit Go.Lib Go.Sort Go.Proofs St

theorem rot_up {d r : Array Line} {a j : Nat} (H : Rot d a (a + 1) (j + 1) r) (hj : j + 1 < d.size) : Rot d a (a + 1) (j + 2) (swp r j (j + 1)) := by
  have h1 := H.sm; have h2 := H.me; have hs := H.size
  have g : ∀ t, (swp r j (j + 1))[t]! = if t = j + 1 then r[j]! else if t = j then r[j + 1]! else r[t]! := fun t => swp_rot (by omega) (by omega) t
  have x := H.snd 0 (by omega)
  rw [at_eq r (show a + (j + 1 - (a + 1)) + 0 = j by omega)] at x
  refine ⟨by omega, by omega, by omega, by rw [size_swp]; exact hs, fun t ht => ?_, fun t h3 h4 => ?_, fun t ht => ?_, fun t ht => ?_⟩
  · rw [g, if_neg (by omega), if_neg (by omega)]; exact H.lo t ht
  · rw [g, if_neg (by omega), if_neg (by omega)]; exact H.hi t (by omega) h4
  · rw [g, if_neg (by omega)]
    by_cases e : a + t = j
    · rw [if_pos e, H.hi (j + 1) (by omega) (by omega)]; exact at_eq d (by omega)
    · rw [if_neg e]; exact H.fst t (by omega)
  · rw [g, if_pos (by omega), x]; exact at_eq d (by omega)
theorem rot_down {d r : Array Line} {j m : Nat} (H : Rot d (j + 1) m (m + 1) r) : Rot d j m (m + 1) (swp r (j + 1) j) := by
  have h1 := H.sm; have h2 := H.me; have hs := H.size; have hd := H.ed
  have g : ∀ t, (swp r (j + 1) j)[t]! = if t = j then r[j + 1]! else if t = j + 1 then r[j]! else r[t]! := fun t => swp_rot (by omega) (by omega) t
  have x := H.fst 0 (by omega)
  refine ⟨by omega, by omega, by omega, by rw [size_swp]; exact hs, fun t ht => ?_, fun t h3 h4 => ?_, fun t ht => ?_, fun t ht => ?_⟩
  · rw [g, if_neg (by omega), if_neg (by omega)]; exact H.lo t (by omega)
  · rw [g, if_neg (by omega), if_neg (by omega)]; exact H.hi t (by omega) h4
  · rw [g, if_pos (by omega)]
    obtain rfl : t = 0 := by omega
    exact x
  · rw [g, if_neg (by omega)]
    by_cases e : t = 0
    · subst e
      rw [if_pos (by omega), H.lo j (by omega)]; exact at_eq d (by omega)
    · rw [if_neg (by omega)]
      have := H.snd (t - 1) (by omega)
      rw [at_eq r (show j + (m + 1 - m) + t = j + 1 + (m + 1 - m) + (t - 1) by omega), this]
      exact at_eq d (by omega)

/-- the first line put behind those that are less -/
theorem up_done {d r : Array Line} {a i b : Nat} (H : Rot d a (a + 1) i r) (hib : i ≤ b) (hb : b ≤ d.size) (hs : Srt d (a + 1) b) (h1 : ∀ t, a + 1 ≤ t → t < i → d[t]!.name < d[a]!.name) (h2 : ∀ t, i ≤ t → t < b → ¬ d[t]!.name < d[a]!.name) : Mg a b d r ∧ Srt r a b := by
  have hm := H.me
  refine ⟨(H.mg fun p q hp1 hp2 hq1 hq2 e => ?_).wider (Nat.le_refl _) hib, ?_⟩
  · obtain rfl : p = a := by omega
    have := h1 q hq1 hq2
    rw [← e] at this
    exact lt_irrefl _ this
  · have x := H.snd 0 (by omega)
    rw [at_eq r (show a + (i - (a + 1)) + 0 = i - 1 by omega), Nat.add_zero] at x
    have y : ∀ t, a ≤ t → t < i - 1 → r[t]! = d[t + 1]! := fun t ht1 ht2 => by
      have := H.fst (t - a) (by omega)
      rw [at_eq r (show a + (t - a) = t by omega)] at this
      rw [this]; exact at_eq d (by omega)
    have z : ∀ t, i ≤ t → t < b → r[t]! = d[t]! := fun t ht1 ht2 => H.hi t ht1 (by omega)
    intro p q hp hpq hq
    rcases Nat.lt_trichotomy p (i - 1) with hp1 | rfl | hp1
    · rcases Nat.lt_trichotomy q (i - 1) with hq1 | rfl | hq1
      · rw [y p hp hp1, y q (by omega) hq1]; exact hs _ _ (by omega) (by omega) (by omega)
      · rw [y p hp hp1, x]; exact lt_asymm (h1 _ (by omega) (by omega))
      · rw [y p hp hp1, z q (by omega) hq]; exact hs _ _ (by omega) (by omega) (by omega)
    · by_cases hq1 : q = i - 1
      · subst hq1; exact lt_irrefl _
      · rw [x, z q (by omega) hq]; exact h2 q (by omega) hq
    · rw [z p (by omega) (by omega), z q (by omega) hq]; exact hs _ _ (by omega) hpq hq
/-- the last line put ahead of those that are greater -/
theorem down_done {d r : Array Line} {a i m : Nat} (H : Rot d i m (m + 1) r) (hai : a ≤ i) (hs : Srt d a m) (h1 : ∀ t, a ≤ t → t < i → ¬ d[m]!.name < d[t]!.name) (h2 : ∀ t, i ≤ t → t < m → d[m]!.name < d[t]!.name) : Mg a (m + 1) d r ∧ Srt r a (m + 1) := by
  have hm := H.sm
  have hd := H.ed
  refine ⟨(H.mg fun p q hp1 hp2 hq1 hq2 e => ?_).wider hai (Nat.le_refl _), ?_⟩
  · obtain rfl : q = m := by omega
    have := h2 p hp1 hp2
    rw [← e] at this
    exact lt_irrefl _ this
  · have x := H.fst 0 (by omega)
    rw [Nat.add_zero, Nat.add_zero] at x
    have y : ∀ t, i < t → t < m + 1 → r[t]! = d[t - 1]! := fun t ht1 ht2 => by
      have := H.snd (t - 1 - i) (by omega)
      rw [at_eq r (show i + (m + 1 - m) + (t - 1 - i) = t by omega)] at this
      rw [this]; exact at_eq d (by omega)
    have z : ∀ t, t < i → r[t]! = d[t]! := fun t ht1 => H.lo t ht1
    intro p q hp hpq hq
    rcases Nat.lt_trichotomy p i with hp1 | rfl | hp1
    · rcases Nat.lt_trichotomy q i with hq1 | rfl | hq1
      · rw [z p hp1, z q hq1]; exact hs _ _ hp hpq (by omega)
      · rw [z p hp1, x]; exact h1 p hp hp1
      · rw [z p hp1, y q hq1 hq]; exact hs _ _ hp (by omega) (by omega)
    · by_cases hq1 : q = p
      · subst hq1; exact lt_irrefl _
      · rw [x, y q (by omega) hq]; exact lt_asymm (h2 _ (by omega) (by omega))
    · rw [y p hp1 (by omega), y q (by omega) hq]; exact hs _ _ (by omega) (by omega) (by omega)

set_option maxHeartbeats 4000000 in
set_option maxRecDepth 1000000 in
theorem sym_left {P : Program} {k : Nat} (L : Lay P k) (g : Nat) (cb : Array Value) (blk off cap a m b : Nat) (d0 d : Array Line) (w0 w : World)
    (eg : ∀ args w, (callFunc g args).run P w = .ok (.enter g args) w) (hcmp : CmpLays P g cb enc k cf blk off d0.size w0)
    (R : RowK enc k w0 blk off d0) (hs : d0.size = d.size) (S : SWK enc k w0 blk off d w) (ham : m = a + 1) (hab : m < b) (hb : b ≤ d.size) (hsz : d.size < 4611686018427387904) (hsr : Srt d m b) :
    Calls P 80 #[.slice (some ⟨blk, off, none⟩) d.size cap, .int .i64 a, .int .i64 m, .int .i64 b, .func (.func g) #[] cb] w fun e w' =>
      e = .returned (.tuple #[]) ∧ ∃ r, (Mg a b d r ∧ Srt r a b) ∧ SWK enc k w0 blk off r w' := by
  have mixed := L.mixed; have t0 := L.t0; have a0 := L.a0; have z0 := L.z0; have v0 := L.v0; have t3 := L.t3; have a3 := L.a3; have z3 := L.z3; have v3 := L.v3; have t4 := L.t4; have a4 := L.a4; have z4 := L.z4; have v4 := L.v4; have tu := L.tu; have au := L.au; have zu := L.zu; have vu := L.vu; have tl := L.tl; have al := L.al; have zl := L.zl; have aE := L.aE; have zE := L.zE; have af := L.af; have zf := L.zf
  have ul := run_underlying L.tl; have u3 := run_underlying L.t3; have uu := run_underlying L.tu; have u4 := run_underlying L.t4
  have S0 : Aside (SWK enc k w0 blk off d w) := S
  have R0 : Hid (RowK enc k w0 blk off d0) := R
  have HC : Hid (CmpLays P g cb enc k cf blk off d0.size w0) := hcmp
  have SR : Hid (Srt d m b) := hsr
  have hmz : (m : Int) - (a : Int) = 1 := by omega
  have AM : Hid (m = a + 1) := ham
  clear S R hcmp hsr ham
  go_enter L.f3, Tryd.ntmps80
  clear L
  go_wp2
  go_loopg [10, 11] (b - a) (fun kx s10 s11 wr => ∃ lo hi : Nat, s10 = .int .i64 lo ∧ s11 = .int .i64 hi ∧ m ≤ lo ∧ lo ≤ hi ∧ hi ≤ b ∧ hi - lo ≤ kx ∧ Aside (SWK enc k w0 blk off d wr) ∧
    Hid ((∀ t, m ≤ t → t < lo → d[t]!.name < d[a]!.name) ∧ (∀ t, hi ≤ t → t < b → ¬ d[t]!.name < d[a]!.name)))
  case atStart => exact ⟨m, b, rfl, rfl, Nat.le_refl _, by omega, Nat.le_refl _, by omega, S0, (⟨fun t h1 h2 => by omega, fun t h1 h2 => by omega⟩ : (∀ t, m ≤ t → t < m → d[t]!.name < d[a]!.name) ∧ (∀ t, b ≤ t → t < b → ¬ d[t]!.name < d[a]!.name))⟩
  case round =>
    clear S0
    obtain ⟨lo, hi, rfl, rfl, hal, hlh, hib, hkx, S1, I⟩ := hrel
    by_cases hlt : lo < hi
    · have hltz : (lo : Int) < (hi : Int) := by omega
      obtain ⟨h, hh⟩ : ∃ h, h = (lo + hi) / 2 := ⟨_, rfl⟩
      have e2 : ((lo : Int) + (hi : Int)) / 2 = (h : Int) := by omega
      have hlo : lo ≤ h := by omega
      have hhi : h < hi := by omega
      have bh : (h : Int) < (d.size : Int) := by omega
      have ba : (a : Int) < (d.size : Int) := by omega
      have l1 := S1.out.ld R0.out (by omega) P h (by omega)
      have l2 := S1.out.ld R0.out (by omega) P a (by omega)
      have hc := S1.out.cmp HC.out (by omega) d[h]! d[a]!
      have G : Aside (∀ n os, SWK enc k w0 blk off d (grow (wr.drewN n) os)) := fun n os => S1.out.grown n os
      clear S1 hh
      by_cases hcc : cf d[h]! d[a]! < 0
      · go_wp2_with fail
        go_quiet_grown (first | (go_at_fn g; refine Calls.grown_of (hc _ _)))
        go_wp2
        go_roundg (hi - (h + 1))
        case measure => omega
        case rel =>
          have hn : d[h]!.name < d[a]!.name := (cf_lt _ _).1 hcc
          have I2 : Hid ((∀ t, m ≤ t → t < h + 1 → d[t]!.name < d[a]!.name) ∧ (∀ t, hi ≤ t → t < b → ¬ d[t]!.name < d[a]!.name)) := ⟨fun t h1 h2 => lt_of_nlt_lt (SR.out t h (by omega) (by omega) (by omega)) hn, I.out.2⟩
          exact ⟨h + 1, hi, by go_num, rfl, by omega, by omega, hib, by omega, G.out nq osq, I2⟩
      · go_wp2_with fail
        go_quiet_grown (first | (go_at_fn g; refine Calls.grown_of (hc _ _)))
        go_wp2
        go_roundg (h - lo)
        case measure => omega
        case rel =>
          have hn : ¬ d[h]!.name < d[a]!.name := fun x => by have := (cf_lt _ _).2 x; omega
          have I2 : Hid ((∀ t, m ≤ t → t < lo → d[t]!.name < d[a]!.name) ∧ (∀ t, h ≤ t → t < b → ¬ d[t]!.name < d[a]!.name)) := ⟨I.out.1, fun t h1 h2 => nlt_trans hn (SR.out h t (by omega) (by omega) h2)⟩
          exact ⟨lo, h, rfl, by first | rfl | go_num, hal, by omega, by omega, by omega, G.out nq osq, I2⟩
    · have hltz : ¬ (lo : Int) < (hi : Int) := by omega
      obtain rfl : hi = lo := by omega
      go_wp2
      go_loopg [13] (b - a) (fun kx s13 wr2 => ∃ (j : Nat) (dk : Array Line), s13 = .int .i64 j ∧ a ≤ j ∧ j + 1 ≤ hi ∧ hi - j ≤ kx ∧ Aside (SWK enc k w0 blk off dk wr2) ∧ Hid (Rot d a (a + 1) (j + 1) dk))
      case atStart => exact ⟨a, d, rfl, by omega, by omega, by omega, S1, Rot.refl_right (by omega) (by omega)⟩
      case round =>
        clear S1
        obtain ⟨j, dk, rfl, haj, hji, hkx2, S2, E⟩ := hrel
        have hds : dk.size = d.size := E.out.size
        by_cases hlt2 : j + 1 < hi
        · have hltz2 : (j : Int) < (hi : Int) - 1 := by omega
          have ea : ((j : Int)).toNat = j := by omega
          have pa : (0 : Int) ≤ (j : Int) := by omega
          have ba : (j : Int) < (d.size : Int) := by omega
          have eb : ((j : Int) + 1).toNat = j + 1 := by omega
          have pb : (0 : Int) ≤ (j : Int) + 1 := by omega
          have bb : (j : Int) + 1 < (d.size : Int) := by omega
          have rb : IntKind.i64.wrap ((j : Int) + 1) = (j : Int) + 1 := by rw [IntKind.wrap_i64]; omega
          have S3 : Aside (SWK enc k w0 blk off (swp dk j (j + 1)) ((wr.drew.setCells blk (off + j * k) (enc dk[j + 1]!)).setCells blk (off + (j + 1) * k) (enc dk[j]!))) := S2.out.swapped R0.out j (j + 1) (by omega) (by omega)
          have l1 := S2.out.ld1 R0.out (by omega) P j (by omega)
          have l2 := S2.out.ld1 R0.out (by omega) P (j + 1) (by omega)
          have s1 := S2.out.st1 R0.out (by omega) P j (by omega) dk[j + 1]!
          have s2 := S2.out.st2 R0.out (by omega) P j (j + 1) (by omega) (by omega) dk[j + 1]! dk[j]!
          have n1 : (enc dk[j]!).length = k := R0.out.hk _
          have n2 : (enc dk[j + 1]!).length = k := R0.out.hk _
          generalize enc dk[j]! = cI at S3 l1 s2 n1
          generalize enc dk[j + 1]! = cJ at S3 l2 s1 s2 n2
          clear S2
          go_wp2_with fail
          go_big_region_o
          clear l1 l2 s1 s2
          generalize (wr.drew.setCells blk (off + j * k) cJ).setCells blk (off + (j + 1) * k) cI = w2 at S3 ⊢
          go_wp2
          go_roundg (hi - (j + 1))
          case measure => omega
          case rel => exact ⟨j + 1, swp dk j (j + 1), by go_num, by omega, by omega, by omega, S3, rot_up E.out (by omega)⟩
        · have hltz2 : ¬ (j : Int) < (hi : Int) - 1 := by omega
          go_wp2
          obtain rfl : hi = j + 1 := by omega
          (try simp only [Exit.inBlock, Exit.then]); refine bodyPost_ret (results_none rfl _ _ _) rfl ?_
          have am := AM.out
          subst am
          exact ⟨rfl, dk, up_done E.out hib hb SR.out I.out.1 I.out.2, S2.out⟩

set_option maxHeartbeats 4000000 in
set_option maxRecDepth 1000000 in
theorem sym_right {P : Program} {k : Nat} (L : Lay P k) (g : Nat) (cb : Array Value) (blk off cap a m b : Nat) (d0 d : Array Line) (w0 w : World)
    (eg : ∀ args w, (callFunc g args).run P w = .ok (.enter g args) w) (hcmp : CmpLays P g cb enc k cf blk off d0.size w0)
    (R : RowK enc k w0 blk off d0) (hs : d0.size = d.size) (S : SWK enc k w0 blk off d w) (ham : a + 1 < m) (hmb : b = m + 1) (hb : b ≤ d.size) (hsz : d.size < 4611686018427387904) (hsr : Srt d a m) :
    Calls P 80 #[.slice (some ⟨blk, off, none⟩) d.size cap, .int .i64 a, .int .i64 m, .int .i64 b, .func (.func g) #[] cb] w fun e w' =>
      e = .returned (.tuple #[]) ∧ ∃ r, (Mg a b d r ∧ Srt r a b) ∧ SWK enc k w0 blk off r w' := by
  have mixed := L.mixed; have t0 := L.t0; have a0 := L.a0; have z0 := L.z0; have v0 := L.v0; have t3 := L.t3; have a3 := L.a3; have z3 := L.z3; have v3 := L.v3; have t4 := L.t4; have a4 := L.a4; have z4 := L.z4; have v4 := L.v4; have tu := L.tu; have au := L.au; have zu := L.zu; have vu := L.vu; have tl := L.tl; have al := L.al; have zl := L.zl; have aE := L.aE; have zE := L.zE; have af := L.af; have zf := L.zf
  have ul := run_underlying L.tl; have u3 := run_underlying L.t3; have uu := run_underlying L.tu; have u4 := run_underlying L.t4
  have S0 : Aside (SWK enc k w0 blk off d w) := S
  have R0 : Hid (RowK enc k w0 blk off d0) := R
  have HC : Hid (CmpLays P g cb enc k cf blk off d0.size w0) := hcmp
  have SR : Hid (Srt d a m) := hsr
  have hmz : ((m : Int) - (a : Int) == 1) = false := by rw [beq_eq_false_iff_ne]; omega
  have hmz' : ¬ (m : Int) - (a : Int) = 1 := by omega
  have hbz : (b : Int) - (m : Int) = 1 := by omega
  have mb : m < b := by omega
  have MB : Hid (b = m + 1) := hmb
  clear S R hcmp hsr hmb
  go_enter L.f3, Tryd.ntmps80
  clear L
  go_wp2
  go_loopg [14, 15] (b - a) (fun kx s14 s15 wr => ∃ lo hi : Nat, s14 = .int .i64 lo ∧ s15 = .int .i64 hi ∧ a ≤ lo ∧ lo ≤ hi ∧ hi ≤ m ∧ hi - lo ≤ kx ∧ Aside (SWK enc k w0 blk off d wr) ∧
    Hid ((∀ t, a ≤ t → t < lo → ¬ d[m]!.name < d[t]!.name) ∧ (∀ t, hi ≤ t → t < m → d[m]!.name < d[t]!.name)))
  case atStart => exact ⟨a, m, rfl, rfl, Nat.le_refl _, by omega, Nat.le_refl _, by omega, S0, (⟨fun t h1 h2 => by omega, fun t h1 h2 => by omega⟩ : (∀ t, a ≤ t → t < a → ¬ d[m]!.name < d[t]!.name) ∧ (∀ t, m ≤ t → t < m → d[m]!.name < d[t]!.name))⟩
  case round =>
    clear S0
    obtain ⟨lo, hi, rfl, rfl, hal, hlh, hib, hkx, S1, I⟩ := hrel
    by_cases hlt : lo < hi
    · have hltz : (lo : Int) < (hi : Int) := by omega
      obtain ⟨h, hh⟩ : ∃ h, h = (lo + hi) / 2 := ⟨_, rfl⟩
      have e2 : ((lo : Int) + (hi : Int)) / 2 = (h : Int) := by omega
      have hlo : lo ≤ h := by omega
      have hhi : h < hi := by omega
      have bh : (h : Int) < (d.size : Int) := by omega
      have ba : (m : Int) < (d.size : Int) := by omega
      have l1 := S1.out.ld R0.out (by omega) P h (by omega)
      have l2 := S1.out.ld R0.out (by omega) P m (by omega)
      have hc := S1.out.cmp HC.out (by omega) d[m]! d[h]!
      have G : Aside (∀ n os, SWK enc k w0 blk off d (grow (wr.drewN n) os)) := fun n os => S1.out.grown n os
      clear S1 hh
      by_cases hcc : cf d[m]! d[h]! < 0
      · go_wp2_with fail
        go_quiet_grown (first | (go_at_fn g; refine Calls.grown_of (hc _ _)))
        go_wp2
        go_roundg (h - lo)
        case measure => omega
        case rel =>
          have hn : d[m]!.name < d[h]!.name := (cf_lt _ _).1 hcc
          have I2 : Hid ((∀ t, a ≤ t → t < lo → ¬ d[m]!.name < d[t]!.name) ∧ (∀ t, h ≤ t → t < m → d[m]!.name < d[t]!.name)) := ⟨I.out.1, fun t h1 h2 => lt_of_lt_nlt hn (SR.out h t (by omega) (by omega) (by omega))⟩
          exact ⟨lo, h, rfl, by first | rfl | go_num, hal, by omega, by omega, by omega, G.out nq osq, I2⟩
      · go_wp2_with fail
        go_quiet_grown (first | (go_at_fn g; refine Calls.grown_of (hc _ _)))
        go_wp2
        go_roundg (hi - (h + 1))
        case measure => omega
        case rel =>
          have hn : ¬ d[m]!.name < d[h]!.name := fun x => by have := (cf_lt _ _).2 x; omega
          have I2 : Hid ((∀ t, a ≤ t → t < h + 1 → ¬ d[m]!.name < d[t]!.name) ∧ (∀ t, hi ≤ t → t < m → d[m]!.name < d[t]!.name)) := ⟨fun t h1 h2 => nlt_trans (SR.out t h (by omega) (by omega) (by omega)) hn, I.out.2⟩
          exact ⟨h + 1, hi, by go_num, rfl, by omega, by omega, hib, by omega, G.out nq osq, I2⟩
        all_goals (rename_i hx; exfalso; rw [decide_eq_false (by omega)] at hx; cases hx)
    · have hltz : ¬ (lo : Int) < (hi : Int) := by omega
      obtain rfl : hi = lo := by omega
      go_wp2
      go_loopg [17] (b - a) (fun kx s17 wr2 => ∃ (j : Nat) (dk : Array Line), s17 = .int .i64 j ∧ hi ≤ j ∧ j ≤ m ∧ j - hi ≤ kx ∧ Aside (SWK enc k w0 blk off dk wr2) ∧ Hid (Rot d j m (m + 1) dk))
      case atStart => exact ⟨m, d, rfl, by omega, by omega, by omega, S1, Rot.refl_left (by omega) (by omega)⟩
      case round =>
        clear S1
        obtain ⟨j, dk, rfl, haj, hji, hkx2, S2, E⟩ := hrel
        have hds : dk.size = d.size := E.out.size
        by_cases hlt2 : hi < j
        · obtain ⟨i, rfl⟩ : ∃ i, j = i + 1 := ⟨j - 1, by omega⟩
          have hltz2 : (hi : Int) < (i : Int) + 1 := by omega
          have ea : ((i : Int)).toNat = i := by omega
          have pa : (0 : Int) ≤ (i : Int) := by omega
          have ba : (i : Int) < (d.size : Int) := by omega
          have eb : ((i : Int) + 1).toNat = i + 1 := by omega
          have pb : (0 : Int) ≤ (i : Int) + 1 := by omega
          have bb : (i : Int) + 1 < (d.size : Int) := by omega
          have rb : IntKind.i64.wrap ((i : Int)) = (i : Int) := by rw [IntKind.wrap_i64]; omega
          have S3 : Aside (SWK enc k w0 blk off (swp dk (i + 1) i) ((wr.drew.setCells blk (off + (i + 1) * k) (enc dk[i]!)).setCells blk (off + i * k) (enc dk[i + 1]!))) := S2.out.swapped R0.out (i + 1) i (by omega) (by omega)
          have l1 := S2.out.ld1 R0.out (by omega) P i (by omega)
          have l2 := S2.out.ld1 R0.out (by omega) P (i + 1) (by omega)
          have s1 := S2.out.st1 R0.out (by omega) P (i + 1) (by omega) dk[i]!
          have s2 := S2.out.st2 R0.out (by omega) P (i + 1) i (by omega) (by omega) dk[i]! dk[i + 1]!
          have n1 : (enc dk[i]!).length = k := R0.out.hk _
          have n2 : (enc dk[i + 1]!).length = k := R0.out.hk _
          generalize enc dk[i]! = cI at S3 l1 s1 s2 n1
          generalize enc dk[i + 1]! = cJ at S3 l2 s2 n2
          clear S2
          go_wp2_with fail
          go_big_region_o
          clear l1 l2 s1 s2
          generalize (wr.drew.setCells blk (off + (i + 1) * k) cI).setCells blk (off + i * k) cJ = w2 at S3 ⊢
          go_wp2
          go_roundg (i - hi)
          case measure => omega
          case rel => exact ⟨i, swp dk (i + 1) i, by first | rfl | go_num, by omega, by omega, by omega, S3, rot_down E.out⟩
        · have hltz2 : ¬ (hi : Int) < (j : Int) := by omega
          go_wp2
          obtain rfl : hi = j := by omega
          (try simp only [Exit.inBlock, Exit.then]); refine bodyPost_ret (results_none rfl _ _ _) rfl ?_
          have mb' := MB.out
          subst mb'
          exact ⟨rfl, dk, down_done E.out hal SR.out I.out.1 I.out.2, S2.out⟩

end Go.Proofs.YtolobnokpmbajaaDoor
