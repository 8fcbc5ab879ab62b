/-
  Lines, their order by names, and what a stable sort may do with a row of them, as plain mathematics.
-/
import Derived.Sort.Walk0
import Derived.Lib.Bytealg
import Derived.Lib.Hide
namespace Go.Proofs.YtolobnokpmbajaaDoor

/-- a line of a directorysizes file -/
structure Line where
  size : Int
  time : Int
  name : List UInt8
instance : Inhabited Line := ⟨⟨0, 0, []⟩⟩
instance : DecidableEq Line := fun a b =>
  if h1 : a.size = b.size then if h2 : a.time = b.time then if h3 : a.name = b.name then
    .isTrue (by cases a; cases b; simp_all)
  else .isFalse (fun e => h3 (by rw [e])) else .isFalse (fun e => h2 (by rw [e])) else .isFalse (fun e => h1 (by rw [e]))

namespace St

theorem lt_irrefl (a : List UInt8) : ¬ a < a := List.lt_irrefl a
theorem lt_trans {a b c : List UInt8} (h1 : a < b) (h2 : b < c) : a < c := List.lt_trans h1 h2
theorem lt_asymm {a b : List UInt8} (h : a < b) : ¬ b < a := fun h' => lt_irrefl a (lt_trans h h')
theorem tri (a b : List UInt8) : a < b ∨ a = b ∨ b < a := by
  by_cases h : a < b
  · exact .inl h
  · by_cases h' : b < a
    · exact .inr (.inr h')
    · exact .inr (.inl (List.le_antisymm (List.not_lt.1 h') (List.not_lt.1 h)))
theorem lt_of_lt_nlt {a b c : List UInt8} (h1 : a < b) (h2 : ¬ c < b) : a < c := by
  rcases tri b c with h | rfl | h
  · exact lt_trans h1 h
  · exact h1
  · exact absurd h h2
theorem lt_of_nlt_lt {a b c : List UInt8} (h1 : ¬ b < a) (h2 : b < c) : a < c := by
  rcases tri a b with h | rfl | h
  · exact lt_trans h h2
  · exact h2
  · exact absurd h h1
theorem nlt_trans {a b c : List UInt8} (h1 : ¬ b < a) (h2 : ¬ c < b) : ¬ c < a := fun h => by
  rcases tri a b with h' | rfl | h'
  · exact h2 (lt_trans h h')
  · exact h2 h
  · exact h1 h'
theorem cmp_lt : ∀ a b : List UInt8, (Lib.compareBytes a b < 0 ↔ a < b)
  | [], [] => by simp [Lib.compareBytes]
  | [], _ :: _ => by simp [Lib.compareBytes]
  | _ :: _, [] => by simp [Lib.compareBytes]
  | a :: x, b :: y => by
    rw [Lib.compareBytes, List.cons_lt_cons_iff]
    by_cases h : a < b
    · rw [if_pos h]; simp [h]
    · rw [if_neg h]
      by_cases h' : b < a
      · rw [if_pos h']
        have : a ≠ b := fun e => by subst e; exact h h'
        simp [h, this]
      · rw [if_neg h', cmp_lt x y]
        have e : a = b := by
          apply UInt8.toNat_inj.1
          have h1 : ¬ a.toNat < b.toNat := h
          have h2 : ¬ b.toNat < a.toNat := h'
          omega
        subst e
        simp [h]
theorem cmp_eq : ∀ a b : List UInt8, (Lib.compareBytes a b = 0 ↔ a = b)
  | [], [] => by simp [Lib.compareBytes]
  | [], _ :: _ => by simp [Lib.compareBytes]
  | _ :: _, [] => by simp [Lib.compareBytes]
  | a :: x, b :: y => by
    rw [Lib.compareBytes]
    by_cases h : a < b
    · rw [if_pos h]
      have : a ≠ b := fun e => by subst e; exact absurd h (by show ¬ a.toNat < a.toNat; omega)
      simp [this]
    · rw [if_neg h]
      by_cases h' : b < a
      · rw [if_pos h']
        have : a ≠ b := fun e => by subst e; exact h h'
        simp [this]
      · rw [if_neg h', cmp_eq x y]
        have e : a = b := by
          apply UInt8.toNat_inj.1
          have h1 : ¬ a.toNat < b.toNat := h
          have h2 : ¬ b.toNat < a.toNat := h'
          omega
        subst e
        simp

/-- how two lines compare -/
def cf (x y : Line) : Int := Lib.compareBytes x.name y.name
theorem cf_lt (x y : Line) : cf x y < 0 ↔ x.name < y.name := cmp_lt _ _
theorem cf_eq (x y : Line) : cf x y = 0 ↔ x.name = y.name := cmp_eq _ _

/-- those of one name, in their order -/
def fil (n : List UInt8) (l : List Line) : List Line := l.filter fun x => decide (x.name = n)
theorem fil_append (n : List UInt8) (a b : List Line) : fil n (a ++ b) = fil n a ++ fil n b := by simp [fil]
theorem fil_nil_iff {n : List UInt8} {l : List Line} : fil n l = [] ↔ ∀ x ∈ l, x.name ≠ n := by simp [fil]
theorem mem_fil {n : List UInt8} {l : List Line} {x : Line} : x ∈ fil n l ↔ x ∈ l ∧ x.name = n := by simp [fil]

theorem get?_of {d : Array Line} {t : Nat} (h : t < d.size) : d.toList[t]? = some d[t]! := by simp [h]
theorem get?_none {d : Array Line} {t : Nat} (h : d.size ≤ t) : d.toList[t]? = none := by simp [h]

/-- r is d with what lies from s to m, and what lies from m to e, exchanged -/
structure Rot (d : Array Line) (s m e : Nat) (r : Array Line) : Prop where
  sm : s ≤ m
  me : m ≤ e
  ed : e ≤ d.size
  size : r.size = d.size
  lo : ∀ t, t < s → r[t]! = d[t]!
  hi : ∀ t, e ≤ t → t < d.size → r[t]! = d[t]!
  fst : ∀ t, t < e - m → r[s + t]! = d[m + t]!
  snd : ∀ t, t < m - s → r[s + (e - m) + t]! = d[s + t]!

theorem Rot.refl_left {d : Array Line} {s e : Nat} (h : s ≤ e) (he : e ≤ d.size) : Rot d s s e d :=
  ⟨Nat.le_refl _, h, he, rfl, fun _ _ => rfl, fun _ _ _ => rfl, fun _ _ => rfl, fun t ht => by omega⟩
theorem Rot.refl_right {d : Array Line} {s e : Nat} (h : s ≤ e) (he : e ≤ d.size) : Rot d s e e d :=
  ⟨h, Nat.le_refl _, he, rfl, fun _ _ => rfl, fun _ _ _ => rfl, fun t ht => by omega, fun t ht => by simp⟩

def seg (d : Array Line) (a b : Nat) : List Line := (d.toList.drop a).take (b - a)
theorem seg_len {d : Array Line} {a b : Nat} (h : a ≤ b) (hb : b ≤ d.size) : (seg d a b).length = b - a := by simp [seg]; omega
theorem seg_get {d : Array Line} {a b t : Nat} (ht : a + t < b) (hb : b ≤ d.size) : (seg d a b)[t]? = some d[a + t]! := by
  unfold seg
  rw [List.getElem?_take, if_pos (by omega), List.getElem?_drop, get?_of (by omega)]
theorem mem_seg {d : Array Line} {a b : Nat} (hb : b ≤ d.size) {x : Line} (h : x ∈ seg d a b) : ∃ t, a ≤ t ∧ t < b ∧ x = d[t]! := by
  obtain ⟨i, hi, e⟩ := List.getElem_of_mem h
  have hl : i < b - a := by
    have : (seg d a b).length ≤ b - a := by unfold seg; rw [List.length_take]; omega
    omega
  have := seg_get (d := d) (a := a) (b := b) (t := i) (by omega) hb
  rw [List.getElem?_eq_getElem hi, e] at this
  exact ⟨a + i, by omega, by omega, by simpa using this⟩
theorem seg_mem {d : Array Line} {a b t : Nat} (ha : a ≤ t) (ht : t < b) (hb : b ≤ d.size) : d[t]! ∈ seg d a b := by
  have := seg_get (d := d) (a := a) (b := b) (t := t - a) (by omega) hb
  rw [show a + (t - a) = t by omega] at this
  exact List.mem_of_getElem? this
theorem parts3 (d : Array Line) {a b : Nat} (h : a ≤ b) : d.toList = d.toList.take a ++ (seg d a b ++ d.toList.drop b) := by
  have e : d.toList.drop b = (d.toList.drop a).drop (b - a) := by rw [List.drop_drop]; congr 1; omega
  rw [e, seg, List.take_append_drop, List.take_append_drop]
theorem seg_two (d : Array Line) {a b c : Nat} (h1 : a ≤ b) (h2 : b ≤ c) : seg d a c = seg d a b ++ seg d b c := by
  unfold seg
  have e : d.toList.drop b = (d.toList.drop a).drop (b - a) := by rw [List.drop_drop]; congr 1; omega
  rw [e, show c - a = (b - a) + (c - b) by omega, List.take_add]
theorem seg_ext {d r : Array Line} {a b a' b' : Nat} (hb : b ≤ d.size) (hb' : b' ≤ r.size) (ha : a ≤ b) (hl : b - a = b' - a') (ha' : a' ≤ b')
    (h : ∀ t, t < b - a → d[a + t]! = r[a' + t]!) : seg d a b = seg r a' b' := by
  refine List.ext_getElem? fun i => ?_
  by_cases hi : i < b - a
  · rw [seg_get (by omega) hb, seg_get (by omega) hb', h i hi]
  · rw [List.getElem?_eq_none (by rw [seg_len ha hb]; omega), List.getElem?_eq_none (by rw [seg_len ha' hb']; omega)]
theorem seg_all (d : Array Line) : seg d 0 d.size = d.toList := by
  unfold seg
  rw [List.drop_zero, List.take_of_length_le (by simp)]

theorem Rot.segs {d r : Array Line} {s m e : Nat} (h : Rot d s m e r) : seg r 0 r.size = seg d 0 s ++ (seg d m e ++ (seg d s m ++ seg d e d.size)) := by
  have h1 := h.sm; have h2 := h.me; have h3 := h.ed; have h4 := h.size
  rw [seg_two r (b := s) (Nat.zero_le _) (by omega), seg_two r (a := s) (b := s + (e - m)) (by omega) (by omega), seg_two r (a := s + (e - m)) (b := e) (by omega) (by omega)]
  rw [seg_ext (d := r) (r := d) (a := 0) (b := s) (a' := 0) (b' := s) (by omega) (by omega) (by omega) rfl (by omega) (fun t ht => by rw [Nat.zero_add]; exact h.lo t (by omega))]
  rw [seg_ext (d := r) (r := d) (a := s) (b := s + (e - m)) (a' := m) (b' := e) (by omega) (by omega) (by omega) (by omega) (by omega) (fun t ht => h.fst t (by omega))]
  rw [seg_ext (d := r) (r := d) (a := s + (e - m)) (b := e) (a' := s) (b' := m) (by omega) (by omega) (by omega) (by omega) (by omega) (fun t ht => h.snd t (by omega))]
  rw [seg_ext (d := r) (r := d) (a := e) (b := r.size) (a' := e) (b' := d.size) (by omega) (by omega) (by omega) (by omega) (by omega) (fun t ht => h.hi _ (by omega) (by omega))]

/-- what a stable sort between a and b may do: it leaves what lies elsewhere, and lines of one name in their order -/
structure Mg (a b : Nat) (d r : Array Line) : Prop where
  size : r.size = d.size
  out : ∀ t, t < d.size → (t < a ∨ b ≤ t) → r[t]! = d[t]!
  fil : ∀ n, fil n r.toList = fil n d.toList
theorem Mg.refl (a b : Nat) (d : Array Line) : Mg a b d d := ⟨rfl, fun _ _ _ => rfl, fun _ => rfl⟩
theorem Mg.trans {a b : Nat} {d r q : Array Line} (h1 : Mg a b d r) (h2 : Mg a b r q) : Mg a b d q :=
  ⟨h2.size.trans h1.size, fun t ht ho => (h2.out t (by rw [h1.size]; exact ht) ho).trans (h1.out t ht ho), fun n => (h2.fil n).trans (h1.fil n)⟩
theorem Mg.wider {a b a' b' : Nat} {d r : Array Line} (h : Mg a b d r) (ha : a' ≤ a) (hb : b ≤ b') : Mg a' b' d r :=
  ⟨h.size, fun t ht ho => h.out t ht (by omega), h.fil⟩
theorem Mg.seg {a b : Nat} {d r : Array Line} (h : Mg a b d r) (hab : a ≤ b) (hb : b ≤ d.size) (n : List UInt8) : St.fil n (St.seg r a b) = St.fil n (St.seg d a b) := by
  have hs := h.size
  have e := h.fil n
  rw [← seg_all r, ← seg_all d, seg_two r (b := a) (by omega) (by omega), seg_two d (b := a) (by omega) (by omega), seg_two r (a := a) (b := b) (by omega) (by omega), seg_two d (a := a) (b := b) (by omega) (by omega)] at e
  rw [seg_ext (d := r) (r := d) (a := 0) (b := a) (a' := 0) (b' := a) (by omega) (by omega) (by omega) rfl (by omega) (fun t ht => by rw [Nat.zero_add]; exact h.out t (by omega) (by omega))] at e
  rw [seg_ext (d := r) (r := d) (a := b) (b := r.size) (a' := b) (b' := d.size) (by omega) (by omega) (by omega) (by omega) (by omega) (fun t ht => h.out _ (by omega) (by omega))] at e
  rw [fil_append, fil_append, fil_append, fil_append] at e
  exact List.append_cancel_right (List.append_cancel_left e)
theorem Mg.mem {a b : Nat} {d r : Array Line} (h : Mg a b d r) (hab : a ≤ b) (hb : b ≤ d.size) {i : Nat} (h1 : a ≤ i) (h2 : i < b) : ∃ j, a ≤ j ∧ j < b ∧ r[i]! = d[j]! := by
  have hm : r[i]! ∈ St.fil r[i]!.name (St.seg r a b) := mem_fil.2 ⟨seg_mem h1 h2 (by rw [h.size]; exact hb), rfl⟩
  rw [h.seg hab hb] at hm
  exact mem_seg hb (mem_fil.1 hm).1
theorem Rot.mg {d r : Array Line} {s m e : Nat} (h : Rot d s m e r) (hn : ∀ i j, s ≤ i → i < m → m ≤ j → j < e → d[i]!.name ≠ d[j]!.name) : Mg s e d r := by
  have h1 := h.sm; have h2 := h.me; have h3 := h.ed; have h4 := h.size
  refine ⟨h.size, fun t ht ho => ho.elim (h.lo t) (fun x => h.hi t x ht), fun n => ?_⟩
  have hd : St.seg d 0 d.size = St.seg d 0 s ++ (St.seg d s m ++ (St.seg d m e ++ St.seg d e d.size)) := by
    rw [seg_two d (a := 0) (b := s) (by omega) (by omega), seg_two d (a := s) (b := m) (c := d.size) (by omega) (by omega), seg_two d (a := m) (b := e) (c := d.size) (by omega) (by omega)]
  rw [← seg_all r, ← seg_all d, h.segs, hd]
  simp only [fil_append]
  congr 1
  by_cases hx : St.fil n (St.seg d m e) = []
  · rw [hx]; simp
  · have hy : St.fil n (St.seg d s m) = [] := by
      refine fil_nil_iff.2 fun x hm => ?_
      obtain ⟨i, hi1, hi2, rfl⟩ := mem_seg (by omega) hm
      intro e1
      apply hx
      refine fil_nil_iff.2 fun y hm' => ?_
      obtain ⟨j, hj1, hj2, rfl⟩ := mem_seg (by omega) hm'
      intro e2
      exact hn i j hi1 hi2 hj1 hj2 (e1.trans e2.symm)
    rw [hy]; simp

/-- sorted from a to b -/
def Srt (d : Array Line) (a b : Nat) : Prop := ∀ i j, a ≤ i → i ≤ j → j < b → ¬ d[j]!.name < d[i]!.name
theorem Srt.sub {d : Array Line} {a b a' b' : Nat} (h : Srt d a b) (ha : a ≤ a') (hb : b' ≤ b) : Srt d a' b' := fun i j h1 h2 h3 => h i j (by omega) h2 (by omega)
theorem Srt.one {d : Array Line} {a b : Nat} (h : b ≤ a + 1) : Srt d a b := fun i j h1 h2 h3 => by
  obtain rfl : i = j := by omega
  exact lt_irrefl _
theorem Srt.moved {d r : Array Line} {a b : Nat} (h : Srt d a b) (e : ∀ t, a ≤ t → t < b → r[t]! = d[t]!) : Srt r a b := fun i j h1 h2 h3 => by
  rw [e i h1 (by omega), e j (by omega) h3]; exact h i j h1 h2 h3
theorem Srt.shift {d r : Array Line} {a b a' : Nat} (h : Srt d a b) (e : ∀ t, t < b - a → r[a' + t]! = d[a + t]!) : Srt r a' (a' + (b - a)) := fun i j h1 h2 h3 => by
  have e1 := e (i - a') (by omega)
  have e2 := e (j - a') (by omega)
  rw [show a' + (i - a') = i by omega] at e1
  rw [show a' + (j - a') = j by omega] at e2
  rw [e1, e2]; exact h _ _ (by omega) (by omega) (by omega)
/-- two sorted halves, none of the left above one of the right -/
theorem Srt.two {d : Array Line} {a m b : Nat} (h1 : Srt d a m) (h2 : Srt d m b) (h : ∀ i j, a ≤ i → i < m → m ≤ j → j < b → ¬ d[j]!.name < d[i]!.name) : Srt d a b := fun i j hi hij hj => by
  by_cases hjm : j < m
  · exact h1 i j hi hij hjm
  · by_cases him : i < m
    · exact h i j hi him (by omega) hj
    · exact h2 i j (by omega) hij hj

end St
end Go.Proofs.YtolobnokpmbajaaDoor
