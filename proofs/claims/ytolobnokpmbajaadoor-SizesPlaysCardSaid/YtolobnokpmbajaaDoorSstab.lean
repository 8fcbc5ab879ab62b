/-
  slices.insertionSortCmpFunc, slices.stableCmpFunc and slices.SortStableFunc at lines.
-/
import Derived.Test.YtolobnokpmbajaaDoorSmain
import Derived.Sort.LotA
namespace Go.Proofs.YtolobnokpmbajaaDoor
open Go.Shelf Go.RowKit Go.Lib Go.Sort Go.Proofs St

theorem swo : SWO (ltOf cf) := {
  irrefl := fun x => decide_eq_false (fun h => lt_irrefl _ ((cf_lt x x).1 h)),
  trans := fun _ _ _ h1 h2 => decide_eq_true ((cf_lt _ _).2 (lt_trans ((cf_lt _ _).1 (of_decide_eq_true h1)) ((cf_lt _ _).1 (of_decide_eq_true h2)))),
  ntrans := fun _ _ _ h1 h2 => decide_eq_false (fun h => nlt_trans (fun h' => of_decide_eq_false h2 ((cf_lt _ _).2 h')) (fun h' => of_decide_eq_false h1 ((cf_lt _ _).2 h')) ((cf_lt _ _).1 h)) }
theorem swp_mg {d : Array Line} {a b j : Nat} (h : d[j + 1]!.name < d[j]!.name) (hj : a ≤ j) (hb : j + 1 < b) (hd : j + 1 < d.size) : Mg a b d (swp d (j + 1) j) := by
  have H : Rot d j (j + 1) (j + 1 + 1) (swp d (j + 1) j) := rot_down (Rot.refl_left (by omega) (by omega))
  refine (H.mg fun p q h1 h2 h3 h4 e => ?_).wider hj (by omega)
  obtain rfl : p = j := by omega
  obtain rfl : q = p + 1 := by omega
  rw [e] at h
  exact lt_irrefl _ h
theorem inner_mg (a b : Nat) : ∀ (j : Nat) (d : Array Line), a ≤ j → j < b → b ≤ d.size → Mg a b d (insInner (ltOf cf) a j d)
  | 0, d, _, _, _ => by unfold insInner; exact Mg.refl _ _ _
  | j + 1, d, h1, h2, h3 => by
    unfold insInner
    split
    · rename_i hc
      simp only [Bool.and_eq_true, decide_eq_true_eq] at hc
      have hm := swp_mg (d := d) (a := a) (b := b) ((cf_lt _ _).1 (of_decide_eq_true hc.2)) (by omega) h2 (by omega)
      exact hm.trans (inner_mg a b j _ (by omega) (by omega) (by rw [size_swp]; exact h3))
    · exact Mg.refl _ _ _
theorem outer_mg (a b : Nat) : ∀ (n i : Nat) (d : Array Line), b - i ≤ n → a < i → b ≤ d.size → Mg a b d (insOuter (ltOf cf) a b i d)
  | 0, i, d, h, _, _ => by rw [insOuter_stop _ _ _ _ _ (by omega)]; exact Mg.refl _ _ _
  | n + 1, i, d, h, ha, hb => by
    by_cases hi : i < b
    · rw [insOuter_go _ _ _ _ _ hi]
      have hm := inner_mg a b i d (by omega) hi hb
      exact hm.trans (outer_mg a b n (i + 1) _ (by omega) (by omega) (by rw [hm.size]; exact hb))
    · rw [insOuter_stop _ _ _ _ _ hi]; exact Mg.refl _ _ _
theorem ins_mg (d : Array Line) (a b : Nat) (hab : a ≤ b) (hb : b ≤ d.size) : Mg a b d (Sort.insertionSort (ltOf cf) d a b) ∧ Srt (Sort.insertionSort (ltOf cf) d a b) a b := by
  refine ⟨outer_mg a b (b - (a + 1)) (a + 1) d (Nat.le_refl _) (by omega) hb, fun i j h1 h2 h3 => ?_⟩
  by_cases e : i = j
  · subst e; exact lt_irrefl _
  · have := (insertionSort_holds swo d a b hab hb).2 i j h1 (by omega) h3
    exact fun h => of_decide_eq_false this ((cf_lt _ _).2 h)

/-- an insertion sort does what it is to do -/
def InsAt (P : Program) (k g : Nat) (cb : Array Value) (blk off cap : Nat) (w0 : World) (d0 : Array Line) : Prop :=
  ∀ (a b : Nat) (d : Array Line) (w : World), d0.size = d.size → SWK enc k w0 blk off d w → a ≤ b → b ≤ d.size →
    Calls P 79 #[.slice (some ⟨blk, off, none⟩) d.size cap, .int .i64 a, .int .i64 b, .func (.func g) #[] cb] w fun e w' =>
      e = .returned (.tuple #[]) ∧ ∃ r, (Mg a b d r ∧ Srt r a b) ∧ SWK enc k w0 blk off r w'

theorem mult_lt {c p a : Nat} (h1 : c ∣ p) (h2 : c ∣ a) (h : p < a) : p + c ≤ a := by
  obtain ⟨x, rfl⟩ := h1
  obtain ⟨y, rfl⟩ := h2
  have : x < y := Nat.lt_of_mul_lt_mul_left h
  calc c * x + c = c * (x + 1) := by rw [Nat.mul_add, Nat.mul_one]
    _ ≤ c * y := Nat.mul_le_mul_left c this
def Lft (c : Nat) (d : Array Line) (a : Nat) : Prop := ∀ p, c ∣ p → p + c ≤ a → Srt d p (p + c)
def Rgt (c : Nat) (d : Array Line) (a n : Nat) : Prop := ∀ p, c ∣ p → a ≤ p → Srt d p (min (p + c) n)
theorem Lft.zero (c : Nat) (hc : 0 < c) (d : Array Line) : Lft c d 0 := fun p _ h => by omega
theorem Lft.next {c a : Nat} {d r : Array Line} (h : Lft c d a) (ha : c ∣ a) (hn : a + c ≤ d.size) (hm : Mg a (a + c) d r) (hs : Srt r a (a + c)) : Lft c r (a + c) := fun p hp h1 => by
  by_cases e : p = a
  · subst e; exact hs
  · have := mult_lt hp ha (by omega)
    exact (h p hp this).moved fun t x y => hm.out t (by omega) (.inl (by omega))
theorem Lft.last {c a n : Nat} {d r : Array Line} (h : Lft c d a) (ha : c ∣ a) (hn : n = d.size) (han : a ≤ n) (hlt : n < a + c) (hm : Mg a n d r) (hs : Srt r a n) : Rgt c r 0 n := fun p hp _ => by
  rcases Nat.lt_trichotomy p a with e | e | e
  · have := mult_lt hp ha e
    exact ((h p hp this).moved fun t x y => hm.out t (by omega) (.inl (by omega))).sub (Nat.le_refl _) (by omega)
  · subst e; exact hs.sub (Nat.le_refl _) (by omega)
  · have := mult_lt ha hp e
    exact Srt.one (by omega)
theorem Rgt.next {c a n : Nat} {d r : Array Line} (h : Rgt c d a n) (hn : n = d.size) {b : Nat} (hab : a ≤ b) (hm : Mg a b d r) : Rgt c r b n := fun p hp h1 =>
  (h p hp (by omega)).moved fun t x y => hm.out t (by omega) (.inr (by omega))
theorem Rgt.fst {c a n : Nat} {d : Array Line} (h : Rgt c d a n) (ha : 2 * c ∣ a) (hb : a + 2 * c ≤ n) : Srt d a (a + c) ∧ Srt d (a + c) (a + 2 * c) := by
  have h1 : c ∣ a := Nat.dvd_trans ⟨2, by omega⟩ ha
  have h2 : c ∣ a + c := Nat.dvd_add h1 (Nat.dvd_refl c)
  exact ⟨(h a h1 (Nat.le_refl _)).sub (Nat.le_refl _) (by omega), (h (a + c) h2 (by omega)).sub (Nat.le_refl _) (by omega)⟩
theorem Rgt.lst {c a n : Nat} {d : Array Line} (h : Rgt c d a n) (ha : 2 * c ∣ a) (hb : n < a + 2 * c) : Srt d a (min (a + c) n) ∧ Srt d (a + c) n := by
  have h1 : c ∣ a := Nat.dvd_trans ⟨2, by omega⟩ ha
  have h2 : c ∣ a + c := Nat.dvd_add h1 (Nat.dvd_refl c)
  exact ⟨h a h1 (Nat.le_refl _), (h (a + c) h2 (by omega)).sub (Nat.le_refl _) (by omega)⟩

set_option maxHeartbeats 4000000 in
set_option maxRecDepth 1000000 in
theorem stable_any {P : Program} {k : Nat} (L : Lay P k) (g : Nat) (cb : Array Value) (blk off cap n : Nat) (d : Array Line) (w : World)
    (f4 : P.funcs[(61 : Nat)]? = some Tryd.f61)
    (ei : ∀ args w, (callFunc 79 args).run P w = .ok (.enter 79 args) w)
    (hI : InsAt P k g cb blk off cap w d) (hS : SymAt P k g cb blk off cap w d n) (hn : n = d.size) (hsz : n < 1000000000000) (S : SWK enc k w blk off d w) :
    Calls P 61 #[.slice (some ⟨blk, off, none⟩) n cap, .int .i64 n, .func (.func g) #[] cb] w fun e w' =>
      e = .returned (.tuple #[]) ∧ ∃ r, (Mg 0 n d r ∧ Srt r 0 n) ∧ SWK enc k w blk off r w' := by
  have mixed := L.mixed; have t0 := L.t0; have a0 := L.a0; have z0 := L.z0; have v0 := L.v0; have t3 := L.t3; have a3 := L.a3; have z3 := L.z3; have v3 := L.v3; have t4 := L.t4; have a4 := L.a4; have z4 := L.z4; have v4 := L.v4; have tl := L.tl; have al := L.al; have zl := L.zl; have af := L.af; have zf := L.zf
  have u3 := run_underlying L.t3
  have e3 : ∀ args w, (callFunc 80 args).run P w = .ok (.enter 80 args) w := enters_of L.f3 (by kernel_rfl) rfl
  have S0 : Aside (SWK enc k w blk off d w) := S
  have SY : Hid (SymAt P k g cb blk off cap w d n) := hS
  have IN : Hid (InsAt P k g cb blk off cap w d) := hI
  have HN : Hid (n = d.size) := hn
  clear S hS hI hn
  go_enter f4, Tryd.ntmps61
  clear L
  go_wp2
  go_loopg [7, 8] n (fun kx s7 s8 wr => ∃ (a : Nat) (dk : Array Line), s7 = .int .i64 a ∧ s8 = .int .i64 ((a : Int) + 20) ∧ a ≤ n ∧ n - a ≤ kx ∧ Aside (SWK enc k w blk off dk wr) ∧ Hid (20 ∣ a ∧ Lft 20 dk a ∧ Mg 0 n d dk))
  case atStart => exact ⟨0, d, rfl, rfl, by omega, by omega, S0, ⟨0, by omega⟩, Lft.zero 20 (by omega) d, Mg.refl _ _ _⟩
  case round =>
    clear S0
    obtain ⟨a, dk, rfl, rfl, han, hkx, S1, I⟩ := hrel
    have hz := I.out.2.2.size
    have hz' : Hid (dk.size = n) := hz.trans HN.out.symm
    by_cases hlt : a + 20 ≤ n
    · have hltz : (a : Int) + 20 ≤ (n : Int) := by omega
      have C := IN.out a (a + 20) dk wr hz.symm S1.out (by omega) (by rw [hz'.out]; exact hlt)
      rw [hz'.out] at C
      have ec : ((a + 20 : Nat) : Int) = (a : Int) + 20 := by omega
      rw [ec] at C
      clear hz ec
      go_wp2_with (first | (go_at_call 79; refine C.mono ?_; clear C; rintro e w9 ⟨rfl, r, hr, S9⟩; have hr9 : Hid (Mg a (a + 20) dk r ∧ Srt r a (a + 20)) := hr; have S99 : Aside (SWK enc k w blk off r w9) := S9; clear hr S9))
      go_roundg (n - (a + 20))
      case measure => omega
      case rel => exact ⟨a + 20, r, by go_num, by first | rfl | go_num, by omega, by omega, S99, Nat.dvd_add I.out.1 ⟨1, by omega⟩, I.out.2.1.next I.out.1 (by rw [hz'.out]; exact hlt) hr9.out.1 hr9.out.2, I.out.2.2.trans (hr9.out.1.wider (by omega) (by omega))⟩
    · have hltz : ¬ (a : Int) + 20 ≤ (n : Int) := by omega
      have C := IN.out a n dk wr hz.symm S1.out (by omega) (by rw [hz'.out]; omega)
      rw [hz'.out] at C
      clear hz
      go_wp2_with (first | (go_at_call 79; refine C.mono ?_; clear C; rintro e w9 ⟨rfl, r, hr, S9⟩; have hr9 : Hid (Mg a n dk r ∧ Srt r a n) := hr; have S99 : Aside (SWK enc k w blk off r w9) := S9; clear hr S9))
      have B0 : Hid (Rgt 20 r 0 n ∧ Mg 0 n d r) := ⟨I.out.2.1.last I.out.1 hz'.out.symm han (by omega) hr9.out.1 hr9.out.2, I.out.2.2.trans (hr9.out.1.wider (by omega) (by omega))⟩
      clear S1 hr9 I hz'
      go_loopg [6] n (fun kx s6 wr => ∃ (c : Nat) (dk : Array Line), s6 = .int .i64 c ∧ 20 ≤ c ∧ c ≤ 2 * n + 20 ∧ n - c ≤ kx ∧ Aside (SWK enc k w blk off dk wr) ∧ Hid (Rgt c dk 0 n ∧ Mg 0 n d dk))
      case atStart => exact ⟨20, r, rfl, by omega, by omega, by omega, S99, B0⟩
      case round =>
        clear S99 B0
        obtain ⟨c, dk, rfl, hc20, hc2n, hkx2, S1, I⟩ := hrel
        by_cases hcn : c < n
        · have hcnz : (c : Int) < (n : Int) := by omega
          go_wp2
          go_loopg [7, 8] n (fun kx s7 s8 wr => ∃ (a : Nat) (dj : Array Line), s7 = .int .i64 a ∧ s8 = .int .i64 ((a : Int) + 2 * (c : Int)) ∧ a ≤ n ∧ n - a ≤ kx ∧ Aside (SWK enc k w blk off dj wr) ∧ Hid (2 * c ∣ a ∧ Lft (2 * c) dj a ∧ Rgt c dj a n ∧ Mg 0 n d dj))
          case atStart => exact ⟨0, dk, rfl, by go_num, by omega, by omega, S1, ⟨0, by omega⟩, Lft.zero _ (by omega) dk, I.out.1, I.out.2⟩
          case round =>
            clear S1 I
            obtain ⟨a, dj, rfl, rfl, han, hkx3, S2, J⟩ := hrel
            have hz := J.out.2.2.2.size
            have hz' : Hid (dj.size = n) := hz.trans HN.out.symm
            have wm : IntKind.i64.wrap ((a : Int) + (c : Int)) = (a : Int) + (c : Int) := by rw [IntKind.wrap_i64]; omega
            by_cases hlt : a + 2 * c ≤ n
            · have hltz : (a : Int) + 2 * (c : Int) ≤ (n : Int) := by omega
              have C := SY.out a (a + c) (a + 2 * c) dj wr (by omega) hz.symm S2.out (by omega) (by omega) (by rw [hz'.out]; exact hlt) (J.out.2.2.1.fst J.out.1 hlt).1 (J.out.2.2.1.fst J.out.1 hlt).2
              rw [hz'.out] at C
              have ec : ((a + 2 * c : Nat) : Int) = (a : Int) + 2 * (c : Int) := by omega
              have ec' : ((a + c : Nat) : Int) = (a : Int) + (c : Int) := by omega
              rw [ec, ec'] at C
              clear hz ec ec'
              go_wp2_with (first | (go_at_call 80; refine C.mono ?_; clear C; rintro e w8 ⟨rfl, q, hq, S9⟩; have hq9 : Hid (Mg a (a + 2 * c) dj q ∧ Srt q a (a + 2 * c)) := hq; have S99 : Aside (SWK enc k w blk off q w8) := S9; clear hq S9))
              go_roundg (n - (a + 2 * c))
              case measure => omega
              case rel => exact ⟨a + 2 * c, q, by go_num, by first | rfl | go_num, by omega, by omega, S99, Nat.dvd_add J.out.1 (Nat.dvd_refl _), J.out.2.1.next J.out.1 (by rw [hz'.out]; exact hlt) hq9.out.1 hq9.out.2, J.out.2.2.1.next hz'.out.symm (by omega) hq9.out.1, J.out.2.2.2.trans (hq9.out.1.wider (by omega) (by omega))⟩
            · have hltz : ¬ (a : Int) + 2 * (c : Int) ≤ (n : Int) := by omega
              by_cases hm : a + c < n
              · have hmz : (a : Int) + (c : Int) < (n : Int) := by omega
                have C := SY.out a (a + c) n dj wr (by omega) hz.symm S2.out (by omega) (by omega) (by rw [hz'.out]; omega) ((J.out.2.2.1.lst J.out.1 (by omega)).1.sub (Nat.le_refl _) (by omega)) (J.out.2.2.1.lst J.out.1 (by omega)).2
                rw [hz'.out] at C
                have ec' : ((a + c : Nat) : Int) = (a : Int) + (c : Int) := by omega
                rw [ec'] at C
                clear hz ec'
                go_wp2_with (first | (go_at_call 80; refine C.mono ?_; clear C; rintro e w8 ⟨rfl, q, hq, S9⟩; have hq9 : Hid (Mg a n dj q ∧ Srt q a n) := hq; have S99 : Aside (SWK enc k w blk off q w8) := S9; clear hq S9))
                go_roundg (n - 2 * c)
                case measure => omega
                case rel => exact ⟨2 * c, q, by go_num, by omega, by omega, by omega, S99, J.out.2.1.last J.out.1 hz'.out.symm han (by omega) hq9.out.1 hq9.out.2, J.out.2.2.2.trans (hq9.out.1.wider (by omega) (by omega))⟩
              · have hmz : ¬ (a : Int) + (c : Int) < (n : Int) := by omega
                clear hz
                go_wp2
                go_roundg (n - 2 * c)
                case measure => omega
                case rel => exact ⟨2 * c, dj, by go_num, by omega, by omega, by omega, S2, J.out.2.1.last J.out.1 hz'.out.symm han (by omega) (Mg.refl _ _ _) ((J.out.2.2.1.lst J.out.1 (by omega)).1.sub (Nat.le_refl _) (by omega)), J.out.2.2.2⟩
        · have hcnz : ¬ (c : Int) < (n : Int) := by omega
          go_wp2
          go_end0
          exact ⟨rfl, dk, ⟨I.out.2, (I.out.1 0 ⟨0, by omega⟩ (Nat.le_refl _)).sub (Nat.le_refl _) (by omega)⟩, S1.out⟩

end Go.Proofs.YtolobnokpmbajaaDoor
