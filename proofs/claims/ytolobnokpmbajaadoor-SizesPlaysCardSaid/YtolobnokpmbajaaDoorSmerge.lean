/-
  The mathematics of slices.symMergeCmpFunc: what the search finds, what the exchange leaves, what the two halves give.
-/
import Derived.Test.YtolobnokpmbajaaDoorSsym
namespace Go.Proofs.YtolobnokpmbajaaDoor
open St

/-- where the search of a merge begins and ends -/
def StR (a m b mid st r0 : Nat) : Prop := (mid < m ∧ st = mid + m - b ∧ r0 = mid) ∨ (m ≤ mid ∧ st = a ∧ r0 = m)
/-- what the search knows -/
structure Fnd (d : Array Line) (p st lo hi r0 : Nat) : Prop where
  below : ∀ c, st ≤ c → c < lo → ¬ d[p - c]!.name < d[c]!.name
  above : ∀ c, hi ≤ c → c < r0 → d[p - c]!.name < d[c]!.name
/-- where the parts lie -/
structure Bd (a m b mid st r0 : Nat) : Prop where
  am : a + 1 < m
  mb : m + 1 < b
  md : mid = (a + b) / 2
  str : StR a m b mid st r0
theorem Bd.num {a m b mid st r0 : Nat} (h : Bd a m b mid st r0) : a ≤ st ∧ st ≤ r0 ∧ r0 ≤ m ∧ r0 ≤ mid ∧ mid + m - st ≤ b ∧ m ≤ mid + m - r0 ∧ a < mid ∧ mid < b := by
  have h1 := h.am; have h2 := h.mb; have h3 := h.md
  rcases h.str with ⟨h4, h5, h6⟩ | ⟨h4, h5, h6⟩ <;> omega
theorem Fnd.less {d : Array Line} {a m b mid st r0 h lo hi : Nat} (B : Bd a m b mid st r0) (hl : Srt d a m) (hr : Srt d m b) (F : Fnd d (mid + m - 1) st lo hi r0) (h1 : st ≤ lo) (h2 : lo ≤ h) (_h3 : h < hi) (_h4 : hi ≤ r0)
    (hn : d[mid + m - 1 - h]!.name < d[h]!.name) : Fnd d (mid + m - 1) st lo h r0 := by
  have n := B.num
  have b1 := B.am; have b2 := B.mb
  refine ⟨F.below, fun c hc1 hc2 => ?_⟩
  have x : d[mid + m - 1 - h]!.name < d[c]!.name := lt_of_lt_nlt hn (hl h c (by omega) hc1 (by omega))
  exact lt_of_nlt_lt (hr (mid + m - 1 - c) (mid + m - 1 - h) (by omega) (by omega) (by omega)) x
theorem Fnd.more {d : Array Line} {a m b mid st r0 h lo hi : Nat} (B : Bd a m b mid st r0) (hl : Srt d a m) (hr : Srt d m b) (F : Fnd d (mid + m - 1) st lo hi r0) (h1 : st ≤ lo) (h2 : lo ≤ h) (_h3 : h < hi) (_h4 : hi ≤ r0)
    (hn : ¬ d[mid + m - 1 - h]!.name < d[h]!.name) : Fnd d (mid + m - 1) st (h + 1) hi r0 := by
  have n := B.num
  have b1 := B.am; have b2 := B.mb
  refine ⟨fun c hc1 hc2 => ?_, F.above⟩
  have x : ¬ d[mid + m - 1 - h]!.name < d[c]!.name := nlt_trans (hl c h (by omega) (by omega) (by omega)) hn
  exact nlt_trans x (hr (mid + m - 1 - h) (mid + m - 1 - c) (by omega) (by omega) (by omega))

/-- what the search has found: the two middle parts are to be exchanged, the outer ones not -/
structure Cut (d : Array Line) (a s m e b mid : Nat) : Prop where
  ls : a ≤ s
  sm : s ≤ m
  me : m ≤ e
  eb : e ≤ b
  md : e + s = mid + m
  amid : a < mid
  midb : mid < b
  smid : s ≤ mid
  mide : mid ≤ e
  l : Srt d a m
  r : Srt d m b
  inn : ∀ i j, s ≤ i → i < m → m ≤ j → j < e → d[j]!.name < d[i]!.name
  out : ∀ i j, a ≤ i → i < s → e ≤ j → j < b → ¬ d[j]!.name < d[i]!.name
theorem Fnd.cut {d : Array Line} {a m b mid st r0 s : Nat} (B : Bd a m b mid st r0) (hl : Srt d a m) (hr : Srt d m b) (F : Fnd d (mid + m - 1) st s s r0) (h1 : st ≤ s) (h4 : s ≤ r0) : Cut d a s m (mid + m - s) b mid := by
  have n := B.num
  have b1 := B.am; have b2 := B.mb; have b3 := B.md
  refine ⟨by omega, by omega, by omega, by omega, by omega, by omega, by omega, by omega, by omega, hl, hr, fun i j hi1 hi2 hj1 hj2 => ?_, fun i j hi1 hi2 hj1 hj2 => ?_⟩
  · have hs : s < r0 := by
      rcases B.str with ⟨h5, h6, h7⟩ | ⟨h5, h6, h7⟩ <;> omega
    have x := F.above s (Nat.le_refl _) hs
    have y : d[mid + m - 1 - s]!.name < d[i]!.name := lt_of_lt_nlt x (hl s i (by omega) hi1 hi2)
    exact lt_of_nlt_lt (hr j (mid + m - 1 - s) hj1 (by omega) (by omega)) y
  · have hs : st < s := by
      rcases B.str with ⟨h5, h6, h7⟩ | ⟨h5, h6, h7⟩ <;> omega
    have x := F.below (s - 1) (by omega) (by omega)
    rw [at_eq d (show mid + m - 1 - (s - 1) = mid + m - s by omega)] at x
    exact nlt_trans (nlt_trans (hl i (s - 1) hi1 (by omega) (by omega)) x) (hr (mid + m - s) j (by omega) hj1 hj2)

/-- the row once the two middle parts are exchanged -/
structure Half (d : Array Line) (a s mid e b : Nat) (r : Array Line) : Prop where
  mg : Mg a b d r
  ls : a ≤ s
  sm : s ≤ mid
  me : mid ≤ e
  eb : e ≤ b
  s1 : Srt r a s
  s2 : Srt r s mid
  s3 : Srt r mid e
  s4 : Srt r e b
  cross : ∀ i j, a ≤ i → i < mid → mid ≤ j → j < b → ¬ r[j]!.name < r[i]!.name
theorem Cut.half {d r : Array Line} {a s m e b mid : Nat} (C : Cut d a s m e b mid) (hb : b ≤ d.size) (H : Rot d s m e r) : Half d a s mid e b r := by
  have h1 := C.ls; have h2 := C.sm; have h3 := C.me; have h4 := C.eb; have h5 := C.md; have h6 := C.smid; have h7 := C.mide
  have A : ∀ t, t < s → r[t]! = d[t]! := H.lo
  have D : ∀ t, e ≤ t → t < b → r[t]! = d[t]! := fun t x y => H.hi t x (by omega)
  have Bq : ∀ t, s ≤ t → t < mid → r[t]! = d[t - s + m]! := fun t x y => by
    have := H.fst (t - s) (by omega)
    rw [at_eq r (show s + (t - s) = t by omega)] at this
    rw [this]; exact at_eq d (by omega)
  have Cq : ∀ t, mid ≤ t → t < e → r[t]! = d[t - mid + s]! := fun t x y => by
    have := H.snd (t - mid) (by omega)
    rw [at_eq r (show s + (e - m) + (t - mid) = t by omega)] at this
    rw [this]; exact at_eq d (by omega)
  refine ⟨(H.mg fun i j hi1 hi2 hj1 hj2 x => ?_).wider h1 h4, h1, h6, h7, h4, fun i j x y z => ?_, fun i j x y z => ?_, fun i j x y z => ?_, fun i j x y z => ?_, fun i j x1 x2 y1 y2 => ?_⟩
  · have := C.inn i j hi1 hi2 hj1 hj2
    rw [x] at this
    exact lt_irrefl _ this
  · rw [A i (by omega), A j z]; exact C.l i j x y (by omega)
  · rw [Bq i x (by omega), Bq j (by omega) z]; exact C.r _ _ (by omega) (by omega) (by omega)
  · rw [Cq i x (by omega), Cq j (by omega) z]; exact C.l _ _ (by omega) (by omega) (by omega)
  · rw [D i x (by omega), D j (by omega) z]; exact C.r _ _ (by omega) y z
  · by_cases hi : i < s
    · by_cases hj : j < e
      · rw [A i hi, Cq j y1 hj]; exact C.l _ _ x1 (by omega) (by omega)
      · rw [A i hi, D j (by omega) y2]; exact C.out i j x1 hi (by omega) y2
    · by_cases hj : j < e
      · rw [Bq i (by omega) x2, Cq j y1 hj]; exact lt_asymm (C.inn _ _ (by omega) (by omega) (by omega) (by omega))
      · rw [Bq i (by omega) x2, D j (by omega) y2]; exact C.r _ _ (by omega) (by omega) y2
theorem Cut.same {d : Array Line} {a s m e b mid : Nat} (C : Cut d a s m e b mid) (hb : b ≤ d.size) (h : ¬ (s < m ∧ m < e)) : Half d a s mid e b d := by
  have h1 := C.ls; have h2 := C.sm; have h3 := C.me; have h4 := C.eb
  refine C.half hb ?_
  by_cases x : s = m
  · subst x; exact Rot.refl_left (by omega) (by omega)
  · obtain rfl : m = e := by omega
    exact Rot.refl_right (by omega) (by omega)
theorem Half.done {d r1 r2 r3 : Array Line} {a s mid e b : Nat} (H : Half d a s mid e b r1) (hb : b ≤ d.size) (h1 : Mg a mid r1 r2 ∧ Srt r2 a mid) (h2 : Mg mid b r2 r3 ∧ Srt r3 mid b) : Mg a b d r3 ∧ Srt r3 a b := by
  have e1 := H.ls; have e2 := H.sm; have e3 := H.me; have e4 := H.eb
  have z1 := H.mg.size; have z2 := h1.1.size; have z3 := h2.1.size
  refine ⟨(H.mg.trans (h1.1.wider (Nat.le_refl _) (by omega))).trans (h2.1.wider (by omega) (Nat.le_refl _)), Srt.two (h1.2.moved fun t x y => h2.1.out t (by omega) (.inl y)) h2.2 fun i j x1 x2 y1 y2 => ?_⟩
  obtain ⟨j', hj1, hj2, ej⟩ := h2.1.mem (by omega) (by omega) y1 y2
  obtain ⟨i', hi1, hi2, ei⟩ := h1.1.mem (by omega) (by omega) x1 x2
  rw [h2.1.out i (by omega) (.inl x2), ej, ei, h1.1.out j' (by omega) (.inr hj1)]
  exact H.cross i' j' hi1 hi2 hj1 hj2
/-- the left half where nothing is to be done -/
theorem Half.left {d r : Array Line} {a s mid e b : Nat} (H : Half d a s mid e b r) (h : ¬ (a < s ∧ s < mid)) : Mg a mid r r ∧ Srt r a mid := by
  have e1 := H.ls; have e2 := H.sm
  refine ⟨Mg.refl _ _ _, ?_⟩
  by_cases x : a = s
  · subst x; exact H.s2
  · obtain rfl : s = mid := by omega
    exact H.s1
theorem Half.right {d r r2 : Array Line} {a s mid e b : Nat} (H : Half d a s mid e b r) (hb : b ≤ d.size) (h2 : Mg a mid r r2) : Srt r2 mid e ∧ Srt r2 e b := by
  have e1 := H.ls; have e2 := H.sm; have e3 := H.me; have e4 := H.eb
  have z1 := H.mg.size
  exact ⟨H.s3.moved fun t x y => h2.out t (by omega) (.inr x), H.s4.moved fun t x y => h2.out t (by omega) (.inr (by omega))⟩
theorem Half.right_done {d r r2 : Array Line} {a s mid e b : Nat} (H : Half d a s mid e b r) (hb : b ≤ d.size) (h2 : Mg a mid r r2) (h : ¬ (mid < e ∧ e < b)) : Mg mid b r2 r2 ∧ Srt r2 mid b := by
  have e3 := H.me; have e4 := H.eb
  have x := H.right hb h2
  refine ⟨Mg.refl _ _ _, ?_⟩
  by_cases y : mid = e
  · subst y; exact x.2
  · obtain rfl : e = b := by omega
    exact x.1
theorem Fnd.same {d : Array Line} {p st r0 s t : Nat} (F : Fnd d p st s s r0) (G : Fnd d p st t t r0) (h1 : st ≤ s) (h2 : s ≤ r0) (h3 : st ≤ t) (h4 : t ≤ r0) : s = t := by
  rcases Nat.lt_trichotomy s t with h | h | h
  · exact absurd (F.above s (Nat.le_refl _) (by omega)) (G.below s h1 h)
  · exact h
  · exact absurd (G.above t (Nat.le_refl _) (by omega)) (F.below t h3 h)
theorem Fnd.ends {d : Array Line} {a m b mid st r0 : Nat} (B : Bd a m b mid st r0) (hl : Srt d a m) (hr : Srt d m b) : ∀ (n lo hi : Nat), hi - lo ≤ n → Fnd d (mid + m - 1) st lo hi r0 → st ≤ lo → lo ≤ hi → hi ≤ r0 →
    ∃ s, st ≤ s ∧ s ≤ r0 ∧ Fnd d (mid + m - 1) st s s r0
  | 0, lo, hi, hn, F, h1, h2, h3 => by
    obtain rfl : lo = hi := by omega
    exact ⟨lo, h1, h3, F⟩
  | n + 1, lo, hi, hn, F, h1, h2, h3 => by
    by_cases e : lo = hi
    · subst e; exact ⟨lo, h1, h3, F⟩
    · by_cases c : d[mid + m - 1 - lo]!.name < d[lo]!.name
      · exact Fnd.ends B hl hr n lo lo (by omega) (F.less B hl hr h1 (Nat.le_refl _) (by omega) h3 c) h1 (Nat.le_refl _) (by omega)
      · exact Fnd.ends B hl hr n (lo + 1) hi (by omega) (F.more B hl hr h1 (Nat.le_refl _) (by omega) h3 c) (by omega) (by omega) h3
theorem Fnd.found {d : Array Line} {a m b mid st r0 : Nat} (B : Bd a m b mid st r0) (hl : Srt d a m) (hr : Srt d m b) : ∃ s, st ≤ s ∧ s ≤ r0 ∧ Fnd d (mid + m - 1) st s s r0 :=
  Fnd.ends B hl hr (r0 - st) st r0 (Nat.le_refl _) ⟨fun t h1 h2 => by omega, fun t h1 h2 => by omega⟩ (Nat.le_refl _) B.num.2.1 (Nat.le_refl _)
open Go.Sort in
/-- a merge of at most N lines does what it is to do -/
def SymAt (P : Program) (k g : Nat) (cb : Array Value) (blk off cap : Nat) (w0 : World) (d0 : Array Line) (N : Nat) : Prop :=
  ∀ (a m b : Nat) (d : Array Line) (w : World), b - a ≤ N → d0.size = d.size → SWK enc k w0 blk off d w → a < m → m < b → b ≤ d.size → Srt d a m → Srt d m b →
    Calls P 80 #[.slice (some ⟨blk, off, none⟩) d.size cap, .int .i64 a, .int .i64 m, .int .i64 b, .func (.func g) #[] cb] w fun e w' =>
      e = .returned (.tuple #[]) ∧ ∃ r, (Mg a b d r ∧ Srt r a b) ∧ SWK enc k w0 blk off r w'
end Go.Proofs.YtolobnokpmbajaaDoor
