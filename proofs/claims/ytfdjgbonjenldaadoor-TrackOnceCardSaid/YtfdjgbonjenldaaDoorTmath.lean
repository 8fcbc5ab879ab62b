/-
  Paths by their texts, on lists of bytes: clean, joined, one from another on, split.
-/
import Derived.Test.YtfdjgbonjenldaaDoorMath
import Derived.Lib.Join
namespace Go.Proofs.YtfdjgbonjenldaaDoor.M
open Go

def abs (l : List UInt8) : Bool := decide (l.head? = some 47)
def jn (ps : List (List UInt8)) : List UInt8 := Lib.join ps [47]
/-- The last one is there, and is not "..". -/
def leaves (k : List (List UInt8)) : Prop := ∃ q, k.getLast? = some q ∧ q ≠ [46, 46]
instance (k : List (List UInt8)) : Decidable (leaves k) :=
  match h : k.getLast? with
  | none => isFalse (by rintro ⟨q, h1, _⟩; rw [h] at h1; cases h1)
  | some q => if e : q = [46, 46] then isFalse (by rintro ⟨q', h1, h2⟩; rw [h] at h1; cases h1; exact h2 e) else isTrue ⟨q, h, e⟩
def step (whole : Bool) (k : List (List UInt8)) (p : List UInt8) : List (List UInt8) :=
  if p = [46, 46] then (if leaves k then k.dropLast else if whole then k else k ++ [p]) else k ++ [p]
def rem (whole : Bool) (ps : List (List UInt8)) : List (List UInt8) := ps.foldl (step whole) []
def kept (l : List UInt8) : List (List UInt8) := rem (abs l) (parts l)
def clean (l : List UInt8) : List UInt8 := if abs l then 47 :: jn (kept l) else if jn (kept l) = [] then [46] else jn (kept l)
def join (a b : List UInt8) : List UInt8 := if abs b = true ∨ a = [] then clean b else clean (a ++ 47 :: b)
def below (s n : List UInt8) : List UInt8 := Lib.trimRightB s 47 ++ 47 :: n
def inside (base s : List UInt8) : Bool := decide (s = base) || Lib.hasPrefix s (below base [])
def relOk (a b : List UInt8) : Prop := abs (clean a) = true ∧ abs (clean b) = true ∧ inside (clean a) (clean b) = true
instance (a b : List UInt8) : Decidable (relOk a b) := by unfold relOk; infer_instance
def relTo (a b : List UInt8) : List UInt8 := if clean b = clean a then [46] else Lib.trimPrefix (clean b) (below (clean a) [])
def rel1 (a b : List UInt8) : List UInt8 := if relOk a b then relTo a b else []
/-- The place behind the last slash; 0: there is none. -/
def ls (l : List UInt8) : Nat := l.length - (lastp l).length
def dirOf (c : List UInt8) : List UInt8 := if c = [47] ∨ c = [46] then c else if ls c = 0 then [46] else if ls c = 1 then [47] else c.take (ls c - 1)
def baseOf (c : List UInt8) : List UInt8 := if c = [47] ∨ c = [46] then [] else c.drop (ls c)

/-! ### Steps -/
theorem step_name {p : List UInt8} (w : Bool) (k : List (List UInt8)) (h : p ≠ [46, 46]) : step w k p = k ++ [p] := by rw [step, if_neg h]
theorem step_leave {k : List (List UInt8)} (w : Bool) (h : leaves k) : step w k [46, 46] = k.dropLast := by rw [step, if_pos rfl, if_pos h]
theorem step_top {k : List (List UInt8)} (h : ¬ leaves k) : step true k [46, 46] = k := by rw [step, if_pos rfl, if_neg h]; rfl
theorem step_up {k : List (List UInt8)} (h : ¬ leaves k) : step false k [46, 46] = k ++ [[46, 46]] := by rw [step, if_pos rfl, if_neg h]; rfl

def Good (p : List UInt8) : Prop := p ≠ [] ∧ p ≠ [46] ∧ (47 : UInt8) ∉ p
def Norm (w : Bool) (k : List (List UInt8)) : Prop := (∀ p ∈ k, Good p) ∧ ∃ a b, k = List.replicate a [46, 46] ++ b ∧ [46, 46] ∉ b ∧ (w = true → a = 0)
theorem good_up : Good [46, 46] := by unfold Good; decide
theorem norm_nil (w : Bool) : Norm w [] := ⟨by simp, 0, [], rfl, by simp, fun _ => rfl⟩
theorem leaves_snoc (k : List (List UInt8)) (q : List UInt8) : leaves (k ++ [q]) ↔ q ≠ [46, 46] := by
  unfold leaves
  simp
theorem not_leaves_nil : ¬ leaves [] := by rintro ⟨q, h, _⟩; cases h
theorem norm_step {w : Bool} {k : List (List UInt8)} {p : List UInt8} (h : Norm w k) (hp : Good p) : Norm w (step w k p) := by
  obtain ⟨hg, a, b, rfl, hb, hw⟩ := h
  by_cases h1 : p = [46, 46]
  · subst h1
    by_cases h2 : leaves (List.replicate a [46, 46] ++ b)
    · rw [step_leave w h2]
      refine ⟨fun q hq => hg q ((List.dropLast_sublist _).subset hq), ?_⟩
      rcases List.eq_nil_or_concat b with rfl | ⟨b', x, rfl⟩
      · rw [List.append_nil] at h2 ⊢
        cases a with
        | zero => exact absurd h2 not_leaves_nil
        | succ a =>
          rw [List.replicate_succ', leaves_snoc] at h2
          exact absurd rfl h2
      · refine ⟨a, b', ?_, fun hm => hb (by simp [hm]), hw⟩
        rw [List.concat_eq_append, ← List.append_assoc, List.dropLast_concat]
    · cases w with
      | true => rw [step_top h2]; exact ⟨hg, a, b, rfl, hb, hw⟩
      | false =>
        rw [step_up h2]
        refine ⟨?_, ?_⟩
        · intro q hq
          rw [List.mem_append, List.mem_singleton] at hq
          rcases hq with hq | rfl
          · exact hg q hq
          · exact good_up
        · rcases List.eq_nil_or_concat b with rfl | ⟨b', x, rfl⟩
          · exact ⟨a + 1, [], by rw [List.append_nil, List.append_nil, List.replicate_succ'], by simp, by simp⟩
          · rw [List.concat_eq_append, ← List.append_assoc, leaves_snoc] at h2
            exact absurd (by have : x = [46, 46] := by simpa using h2
                             rw [this]; simp) hb
  · rw [step_name w _ h1]
    refine ⟨?_, a, b ++ [p], by rw [List.append_assoc], ?_, hw⟩
    · intro q hq
      rw [List.mem_append, List.mem_singleton] at hq
      rcases hq with hq | rfl
      · exact hg q hq
      · exact hp
    · rw [List.mem_append, List.mem_singleton, not_or]
      exact ⟨hb, fun e => h1 e.symm⟩
theorem norm_fold {w : Bool} : ∀ (ps k : List (List UInt8)), Norm w k → (∀ p ∈ ps, Good p) → Norm w (ps.foldl (step w) k)
  | [], _, h, _ => h
  | p :: ps, _, h, hp => norm_fold ps _ (norm_step h (hp p (by simp))) (fun q hq => hp q (by simp [hq]))
theorem parts_good (l : List UInt8) : ∀ p ∈ parts l, Good p := fun _ hp => part_is hp
theorem norm_kept (l : List UInt8) : Norm (abs l) (kept l) := norm_fold _ _ (norm_nil _) (parts_good l)

theorem fold_plain (w : Bool) : ∀ (ps k : List (List UInt8)), [46, 46] ∉ ps → ps.foldl (step w) k = k ++ ps
  | [], k, _ => by simp
  | p :: ps, k, h => by
    simp only [List.mem_cons, not_or] at h
    rw [List.foldl_cons, step_name w k (fun e => h.1 e.symm), fold_plain w ps _ h.2]; simp
theorem fold_ups : ∀ a m : Nat, (List.replicate a [46, 46]).foldl (step false) (List.replicate m [46, 46]) = List.replicate (m + a) [46, 46]
  | 0, m => rfl
  | a + 1, m => by
    have h : ¬ leaves (List.replicate m [46, 46]) := by
      cases m with
      | zero => exact not_leaves_nil
      | succ m => rw [List.replicate_succ', leaves_snoc]; simp
    rw [List.replicate_succ, List.foldl_cons, step_up h, ← List.replicate_succ', fold_ups a (m + 1)]
    congr 1; omega
theorem rem_norm {w : Bool} {k : List (List UInt8)} (h : Norm w k) : rem w k = k := by
  obtain ⟨_, a, b, rfl, hb, hw⟩ := h
  unfold rem
  rw [List.foldl_append]
  cases w with
  | true =>
    obtain rfl := hw rfl
    exact fold_plain true b [] hb
  | false =>
    have := fold_ups a 0
    rw [List.replicate_zero, Nat.zero_add] at this
    rw [this]
    exact fold_plain false b _ hb
theorem norm_true {k : List (List UInt8)} (h : Norm true k) : [46, 46] ∉ k := by
  obtain ⟨_, a, b, rfl, hb, hw⟩ := h
  obtain rfl := hw rfl
  simpa using hb

/-! ### Joined by slashes -/
theorem jn_nil : jn [] = [] := rfl
theorem jn_one (p : List UInt8) : jn [p] = p := Lib.join_one p [47]
theorem jn_cons (p q : List UInt8) (r : List (List UInt8)) : jn (p :: q :: r) = p ++ 47 :: jn (q :: r) := by
  unfold jn
  rw [Lib.join_cons, Lib.join_cons]; simp [Lib.joinTail]
theorem jn_snoc : ∀ (k : List (List UInt8)) (p : List UInt8), k ≠ [] → jn (k ++ [p]) = jn k ++ 47 :: p
  | [], _, h => absurd rfl h
  | [x], p, _ => by rw [List.cons_append, List.nil_append, jn_cons, jn_one, jn_one]
  | x :: y :: r, p, _ => by
    have ih := jn_snoc (y :: r) p (by simp)
    rw [List.cons_append, List.cons_append, jn_cons, jn_cons, ← List.cons_append, ih]; simp
theorem jn_len : ∀ k : List (List UInt8), (jn k).length = total k + (k.length - 1)
  | [] => rfl
  | [x] => by rw [jn_one]; simp [total]
  | x :: y :: r => by
    have ih := jn_len (y :: r)
    rw [jn_cons, List.length_append, List.length_cons, ih]
    simp [total]; omega
theorem pieces_jn : ∀ k : List (List UInt8), k ≠ [] → (∀ p ∈ k, (47 : UInt8) ∉ p) → pieces (jn k) = k
  | [], h, _ => absurd rfl h
  | [x], _, h => by rw [jn_one]; exact pieces_none x (h x (by simp))
  | x :: y :: r, _, h => by
    have ih := pieces_jn (y :: r) (by simp) (fun p hp => h p (List.mem_cons_of_mem _ hp))
    rw [jn_cons, pieces_app, pieces_none x (h x (by simp)), ih]; rfl
theorem filter_good {k : List (List UInt8)} (h : ∀ p ∈ k, Good p) : k.filter keep = k :=
  List.filter_eq_self.2 fun p hp => keep_other (h p hp).1 (h p hp).2.1
theorem parts_jn {k : List (List UInt8)} (h : ∀ p ∈ k, Good p) : parts (jn k) = k := by
  by_cases hk : k = []
  · subst hk; rfl
  · rw [parts, pieces_jn k hk (fun p hp => (h p hp).2.2), filter_good h]
theorem parts_slash (l : List UInt8) : parts (47 :: l) = parts l := by
  rw [parts, parts, pieces_slash, List.filter_cons, if_neg (by simp [keep])]
theorem parts_app (a r : List UInt8) : parts (a ++ 47 :: r) = parts a ++ parts r := by
  rw [parts, pieces_app, List.filter_append]; rfl
theorem head_good {p : List UInt8} (h : Good p) (r : List UInt8) : abs (p ++ r) = false := by
  cases p with
  | nil => exact absurd rfl h.1
  | cons c p =>
    have : c ≠ 47 := fun e => h.2.2 (by simp [e])
    simp [abs, this]
theorem abs_jn {k : List (List UInt8)} (h : ∀ p ∈ k, Good p) : abs (jn k) = false := by
  match k, h with
  | [], _ => rfl
  | [x], h => have := head_good (h x (by simp)) []; rwa [List.append_nil, ← jn_one x] at this
  | x :: y :: r, h => rw [jn_cons]; exact head_good (h x (by simp)) _
theorem jn_ne {k : List (List UInt8)} (h : ∀ p ∈ k, Good p) (hk : k ≠ []) : jn k ≠ [] := by
  intro e
  have := pieces_jn k hk (fun p hp => (h p hp).2.2)
  rw [e, pieces_nil] at this
  exact (h [] (by rw [← this]; simp)).1 rfl
theorem abs_slash (l : List UInt8) : abs (47 :: l) = true := rfl
theorem abs_app {a : List UInt8} (h : abs a = true) (r : List UInt8) : abs (a ++ r) = true := by
  cases a with
  | nil => simp [abs] at h
  | cons c a => simpa [abs] using h
theorem abs_ne {a : List UInt8} (h : abs a = true) : a ≠ [] := by rintro rfl; simp [abs] at h
theorem abs_cons {a : List UInt8} (h : abs a = true) : ∃ r, a = 47 :: r := by
  cases a with
  | nil => simp [abs] at h
  | cons c a => exact ⟨a, by have : c = 47 := by simpa [abs] using h
                             rw [this]⟩

/-! ### Clean -/
theorem clean_abs {l : List UInt8} (h : abs l = true) : clean l = 47 :: jn (kept l) := by rw [clean, if_pos h]
theorem clean_none {l : List UInt8} (h : abs l = false) (hk : jn (kept l) = []) : clean l = [46] := by rw [clean, if_neg (by simp [h]), if_pos hk]
theorem clean_some {l : List UInt8} (h : abs l = false) (hk : jn (kept l) ≠ []) : clean l = jn (kept l) := by rw [clean, if_neg (by simp [h]), if_neg hk]
theorem kept_good (l : List UInt8) : ∀ p ∈ kept l, Good p := (norm_kept l).1
theorem clean_ne (l : List UInt8) : clean l ≠ [] := by
  unfold clean
  split
  · simp
  · split
    · simp
    · assumption
theorem abs_clean (l : List UInt8) : abs (clean l) = abs l := by
  cases h : abs l with
  | true => rw [clean_abs h]; rfl
  | false =>
    by_cases hk : jn (kept l) = []
    · rw [clean_none h hk]; rfl
    · rw [clean_some h hk]; exact abs_jn (kept_good l)
theorem kept_clean (l : List UInt8) : kept (clean l) = kept l := by
  have hn := rem_norm (norm_kept l)
  unfold kept
  rw [abs_clean]
  show rem (abs l) (parts (clean l)) = kept l
  cases h : abs l with
  | true =>
    rw [clean_abs h, parts_slash, parts_jn (kept_good l), ← h]; exact hn
  | false =>
    by_cases hk : jn (kept l) = []
    · rw [clean_none h hk]
      have : kept l = [] := by
        by_cases e : kept l = []
        · exact e
        · exact absurd hk (jn_ne (kept_good l) e)
      rw [this]; decide
    · rw [clean_some h hk, parts_jn (kept_good l), ← h]; exact hn
/-- P3.3. -/
theorem clean_clean (l : List UInt8) : clean (clean l) = clean l := by
  have h : ∀ m, clean m = if abs m then 47 :: jn (kept m) else if jn (kept m) = [] then [46] else jn (kept m) := fun _ => rfl
  rw [h (clean l), kept_clean, abs_clean]
  exact (h l).symm

def wt (k : List (List UInt8)) : Nat := total k + k.length
theorem wt_snoc (k : List (List UInt8)) (p : List UInt8) : wt (k ++ [p]) = wt k + (p.length + 1) := by simp [wt, total]; omega
theorem wt_step (w : Bool) (k : List (List UInt8)) (p : List UInt8) : wt (step w k p) ≤ wt k + (p.length + 1) := by
  unfold step
  split
  · split
    · rcases List.eq_nil_or_concat k with rfl | ⟨k', x, rfl⟩
      · simp [wt]
      · rw [List.concat_eq_append, List.dropLast_concat, wt_snoc]; omega
    · split
      · omega
      · rw [wt_snoc]; omega
  · rw [wt_snoc]; omega
theorem wt_fold (w : Bool) : ∀ (ps k : List (List UInt8)), wt (ps.foldl (step w) k) ≤ wt k + wt ps
  | [], k => by simp [wt, total]
  | p :: ps, k => by
    have h1 := wt_fold w ps (step w k p)
    have h2 := wt_step w k p
    have h3 : wt (p :: ps) = p.length + 1 + wt ps := by simp [wt, total]; omega
    rw [List.foldl_cons]; omega
theorem wt_pieces : ∀ l, wt (pieces l) = l.length + 1
  | [] => rfl
  | b :: l => by
    have ih := wt_pieces l
    by_cases hb : b = 47
    · subst hb; rw [pieces_slash]; simp [wt, total] at ih ⊢; omega
    · cases hp : pieces l with
      | nil => exact absurd hp (pieces_ne l)
      | cons p ps => rw [pieces_cons hb hp]; rw [hp] at ih; simp [wt, total] at ih ⊢; omega
theorem wt_parts (l : List UInt8) : wt (parts l) ≤ l.length + 1 := by
  have h1 := total_filter keep (pieces l)
  have h2 := List.length_filter_le keep (pieces l)
  have h3 := wt_pieces l
  unfold wt at h3 ⊢
  unfold parts
  omega
theorem wt_kept (l : List UInt8) : wt (kept l) ≤ wt (parts l) := by
  have := wt_fold (abs l) (parts l) []
  rw [show wt [] = 0 from rfl, Nat.zero_add] at this
  exact this
theorem jn_wt (k : List (List UInt8)) : (jn k).length ≤ wt k ∧ (k ≠ [] → (jn k).length + 1 = wt k) := by
  have h := jn_len k
  unfold wt
  refine ⟨by omega, fun hk => ?_⟩
  have := List.length_pos_iff.2 hk
  omega
theorem kept_len (l : List UInt8) : (kept l).length ≤ l.length + 1 ∧ (jn (kept l)).length ≤ l.length + 1 := by
  have h1 := wt_kept l
  have h2 := wt_parts l
  have h3 := (jn_wt (kept l)).1
  unfold wt at h1 h2 h3
  omega
theorem clean_len (l : List UInt8) : (clean l).length ≤ l.length ∨ clean l = [46] := by
  have h1 := wt_kept l
  by_cases hk : kept l = []
  · cases h : abs l with
    | true =>
      left
      rw [clean_abs h, hk, jn_nil]
      have := List.length_pos_iff.2 (abs_ne h)
      simp; omega
    | false => right; exact clean_none h (by rw [hk]; rfl)
  · have h3 := (jn_wt (kept l)).2 hk
    left
    cases h : abs l with
    | true =>
      obtain ⟨r, rfl⟩ := abs_cons h
      rw [clean_abs h]
      have h2 := wt_parts r
      rw [parts_slash] at h1
      simp only [List.length_cons]; omega
    | false =>
      have h2 := wt_parts l
      rw [clean_some h (jn_ne (kept_good l) hk)]; omega
theorem clean_most (l : List UInt8) : (clean l).length ≤ l.length + 1 := by
  rcases clean_len l with h | h
  · omega
  · rw [h]; simp

/-! ### The last slash -/
theorem last_split : ∀ l : List UInt8, (47 : UInt8) ∉ l ∨ ∃ a r, l = a ++ 47 :: r ∧ (47 : UInt8) ∉ r
  | [] => .inl (by simp)
  | b :: l => by
    rcases last_split l with h | ⟨a, r, rfl, h⟩
    · by_cases hb : b = 47
      · subst hb; exact .inr ⟨[], l, rfl, h⟩
      · left; simp only [List.mem_cons, not_or]; exact ⟨fun e => hb e.symm, h⟩
    · exact .inr ⟨b :: a, r, rfl, h⟩
theorem ls_none {l : List UInt8} (h : (47 : UInt8) ∉ l) : ls l = 0 := by rw [ls, lastp_none h]; omega
theorem ls_some {a r : List UInt8} (h : (47 : UInt8) ∉ r) : ls (a ++ 47 :: r) = a.length + 1 := by
  rw [ls, lastp_app, lastp_none h]; simp; omega
theorem ls_le (l : List UInt8) : ls l ≤ l.length := by unfold ls; omega
theorem ls_slash (l : List UInt8) : ls (l ++ [47]) = l.length + 1 := ls_some (by simp)
theorem ls_other {b : UInt8} (l : List UInt8) (hb : b ≠ 47) : ls (l ++ [b]) = ls l := by
  rcases last_split l with h | ⟨a, r, rfl, h⟩
  · rw [ls_none h, ls_none]
    simp only [List.mem_append, List.mem_singleton, not_or]; exact ⟨h, fun e => hb e.symm⟩
  · rw [ls_some h, List.append_assoc, List.cons_append, ls_some]
    simp only [List.mem_append, List.mem_singleton, not_or]; exact ⟨h, fun e => hb e.symm⟩
theorem ls_index (s : ByteArray) : Lib.lastIndexByte s 47 + 1 = ls s.data.toList := by
  obtain ⟨k, hk, hle, hd⟩ := last_slash s
  rw [hk, ls, hd, List.length_drop, ← Lib.size_eq]
  omega

/-! ### Without slashes at the end -/
theorem trim_last {a : List UInt8} (h : lastp a ≠ []) : Lib.trimRightB a 47 = a := by
  rcases List.eq_nil_or_concat a with rfl | ⟨a', x, rfl⟩
  · rfl
  · rw [List.concat_eq_append] at h ⊢
    by_cases hx : x = 47
    · subst hx
      exact absurd (by rw [show a' ++ [47] = a' ++ 47 :: [] from rfl, lastp_app]; rfl) h
    · exact trim_other a' hx
theorem lastp_mem (l : List UInt8) : lastp l ∈ pieces l := List.getLast_mem _
theorem lastp_slash (l : List UInt8) : lastp (47 :: l) = lastp l := lastp_app [] l

/-- P3.2, P3.3: what is told from a path on, joined to it, is what it was. -/
theorem join_rel {a b : List UInt8} (h : relOk a b) : join a (relTo a b) = clean b := by
  obtain ⟨ha, hb, hi⟩ := h
  rw [abs_clean] at ha hb
  have hA := clean_abs ha
  have hB := clean_abs hb
  have hne := abs_ne ha
  by_cases e : clean b = clean a
  · rw [relTo, if_pos e, join, if_neg (by simp [hne]; decide), clean, if_pos (abs_app ha _), e, hA, kept, parts_app, abs_app ha _]
    rw [show parts [46] = [] by decide, List.append_nil, kept, ha]
  · rw [relTo, if_neg e]
    have hp : Lib.hasPrefix (clean b) (below (clean a) []) = true := by
      unfold inside at hi
      rw [decide_eq_false e] at hi
      exact hi
    obtain ⟨r, hr⟩ : ∃ r, clean b = below (clean a) [] ++ r := by
      unfold Lib.hasPrefix at hp
      obtain ⟨r, hr⟩ := List.isPrefixOf_iff_prefix.1 hp
      exact ⟨r, hr.symm⟩
    have ht : Lib.trimPrefix (clean b) (below (clean a) []) = r := by
      rw [Lib.trimPrefix, if_pos hp, hr, List.drop_left]
    rw [ht]
    have hna := norm_kept a
    have hnb := norm_kept b
    rw [ha] at hna
    rw [hb] at hnb
    have hkb : kept b ≠ [] ∧ kept b = kept a ++ pieces r := by
      by_cases hk : kept a = []
      · rw [hA, hk, jn_nil, below] at hr
        rw [show Lib.trimRightB [47] 47 = [] by decide, hB] at hr
        have hr' : jn (kept b) = r := by simpa using hr
        have hkb : kept b ≠ [] := by
          intro h0
          exact e (by rw [hA, hB, hk, h0])
        exact ⟨hkb, by rw [hk, ← hr', pieces_jn _ hkb (fun p hp => (hnb.1 p hp).2.2)]; rfl⟩
      · have hpa := pieces_jn (kept a) hk (fun p hp => (hna.1 p hp).2.2)
        have hla : lastp (clean a) ≠ [] := by
          rw [hA, lastp_slash]
          have := lastp_mem (jn (kept a))
          rw [hpa] at this
          exact (hna.1 _ this).1
        rw [below, trim_last hla, hB, hA] at hr
        have hr' : jn (kept b) = jn (kept a) ++ 47 :: r := by simpa using hr
        have hkb : kept b ≠ [] := by
          intro h0
          rw [h0, jn_nil] at hr'
          simp at hr'
        refine ⟨hkb, ?_⟩
        have := pieces_jn (kept b) hkb (fun p hp => (hnb.1 p hp).2.2)
        rw [hr', pieces_app, hpa] at this
        exact this.symm
    have hgr : ∀ p ∈ pieces r, Good p := fun p hp => hnb.1 p (by rw [hkb.2]; simp [hp])
    have hpr : parts r = pieces r := filter_good hgr
    have hur : [46, 46] ∉ pieces r := fun hm => norm_true hnb (by rw [hkb.2]; simp [hm])
    have har : abs r = false := by
      cases h : abs r with
      | false => rfl
      | true =>
        obtain ⟨r', rfl⟩ := abs_cons h
        exact absurd rfl (hgr [] (by rw [pieces_slash]; simp)).1
    rw [join, if_neg (by simp [hne, har]), clean, if_pos (abs_app ha _), hB, kept, abs_app ha _, parts_app, hpr, rem, List.foldl_append, fold_plain true _ _ hur]
    rw [hkb.2, kept, ha, rem]
/-- P3.2: a path is its directory, and its last part. -/
theorem below_split {b : List UInt8} (h : abs (clean b) = true) (hn : baseOf (clean b) ≠ []) : below (dirOf (clean b)) (baseOf (clean b)) = clean b := by
  have hb : abs b = true := by rwa [abs_clean] at h
  have hB := clean_abs hb
  have hnb := norm_kept b
  have h0 : ¬ (clean b = [47] ∨ clean b = [46]) := by
    intro h0
    rw [baseOf, if_pos h0] at hn
    exact hn rfl
  have hk : kept b ≠ [] := by
    intro hk
    rw [hk, jn_nil] at hB
    exact h0 (.inl hB)
  have hpc : pieces (clean b) = [] :: kept b := by rw [hB, pieces_slash, pieces_jn _ hk (fun p hp => (hnb.1 p hp).2.2)]
  rw [dirOf, baseOf, if_neg h0, if_neg h0]
  rcases last_split (clean b) with h1 | ⟨a, r, h1, h2⟩
  · exact absurd (by rw [hB]; simp) h1
  · have hls : ls (clean b) = a.length + 1 := by rw [h1, ls_some h2]
    rw [hls, if_neg (by omega)]
    have hd : (clean b).drop (a.length + 1) = r := by
      rw [h1, show a ++ 47 :: r = (a ++ [47]) ++ r by simp]
      exact List.drop_left' (by simp)
    rw [hd]
    by_cases ha : a = []
    · subst ha
      rw [if_pos (show ([] : List UInt8).length + 1 = 1 from rfl), below, show Lib.trimRightB [47] 47 = [] by decide, h1]
    · have : 0 < a.length := List.length_pos_iff.2 ha
      rw [if_neg (by omega), Nat.add_sub_cancel]
      have ht : (clean b).take a.length = a := by rw [h1, List.take_left]
      rw [ht, below]
      obtain ⟨a', rfl⟩ : ∃ a', a = 47 :: a' := by
        cases a with
        | nil => exact absurd rfl ha
        | cons c a' =>
          rw [hB, List.cons_append] at h1
          exact ⟨a', by rw [(List.cons.inj h1).1]⟩
      have hl : lastp (47 :: a') ≠ [] := by
        rw [lastp_slash]
        have hm := lastp_mem a'
        rw [h1, pieces_app, pieces_slash, List.cons_append] at hpc
        have := (List.cons.inj hpc).2
        exact (hnb.1 (lastp a') (by rw [← this]; simp [hm])).1
      rw [trim_last hl, h1]
theorem inside_self (c : List UInt8) : inside c c = true := by simp [inside]
theorem below_len (s n : List UInt8) : (below s n).length ≤ s.length + 1 + n.length := by
  have := trim_le s
  simp [below]; omega
theorem rel_len (a b : List UInt8) : (relTo a b).length ≤ b.length + 1 := by
  have := clean_most b
  unfold relTo Lib.trimPrefix
  split
  · simp
  · split
    · simp; omega
    · exact this
theorem rel1_len (a b : List UInt8) : (rel1 a b).length ≤ b.length + 1 := by
  unfold rel1
  split
  · exact rel_len a b
  · simp
theorem rel1_yes {a b : List UInt8} (h : relOk a b) : rel1 a b = relTo a b := if_pos h
theorem rel1_no {a b : List UInt8} (h : ¬ relOk a b) : rel1 a b = [] := if_neg h
theorem below_nil_len (s : List UInt8) : (below s []).length = (Lib.trimRightB s 47).length + 1 := by simp [below]
theorem relTo_drop {a b : List UInt8} (h : relOk a b) (hne : clean b ≠ clean a) : (Lib.trimRightB (clean a) 47).length + 1 ≤ (clean b).length ∧ relTo a b = (clean b).drop ((Lib.trimRightB (clean a) 47).length + 1) := by
  have hp : Lib.hasPrefix (clean b) (below (clean a) []) = true := by
    have hi := h.2.2
    unfold inside at hi
    rw [decide_eq_false hne] at hi
    exact hi
  refine ⟨?_, by rw [relTo, if_neg hne, Lib.trimPrefix, if_pos hp, below_nil_len]⟩
  unfold Lib.hasPrefix at hp
  have := (List.isPrefixOf_iff_prefix.1 hp).length_le
  rw [below_nil_len] at this
  exact this
theorem dir_len (b : List UInt8) : (dirOf (clean b)).length ≤ b.length + 1 := by
  have := clean_most b
  unfold dirOf
  split
  · exact this
  · split
    · simp
    · split
      · simp
      · simp; omega
theorem base_len (b : List UInt8) : (baseOf (clean b)).length ≤ b.length + 1 := by
  have := clean_most b
  unfold baseOf
  split
  · simp
  · simp; omega
end Go.Proofs.YtfdjgbonjenldaaDoor.M
