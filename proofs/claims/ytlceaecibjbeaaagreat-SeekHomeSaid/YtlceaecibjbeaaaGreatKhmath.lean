/-
  The path of a directory leads to it: the mathematics.
-/
import Derived.Test.YtlceaecibjbeaaaGreatKfmath
namespace Go.Proofs.YtlceaecibjbeaaaGreat.K
open G

section
variable {st : St}
theorem cov_inj {d : List Mt} (h : d.Pairwise fun a b => a.cov ≠ b.cov) {a b : Mt} (ha : a ∈ d) (hb : b ∈ d) (e : a.cov = b.cov) : a = b := by
  induction d with
  | nil => cases ha
  | cons x r ih =>
    obtain ⟨h1, h2⟩ := List.pairwise_cons.1 h
    rcases List.mem_cons.1 ha with e1 | ha
    · rcases List.mem_cons.1 hb with e2 | hb
      · rw [e1, e2]
      · rw [e1] at e; exact absurd e (h1 b hb)
    · rcases List.mem_cons.1 hb with e2 | hb
      · rw [e2] at e; exact absurd e.symm (h1 a ha)
      · exact ih h2 ha hb
theorem over_under (hI : Inv st) (hT : Tree st) (x : Int) : over st.d (under st.d x) = over st.d x := by
  unfold under
  cases hf : st.d.find? (fun m => decide (m.root = x)) with
  | none => rfl
  | some m =>
    have hm := List.mem_of_find?_eq_some hf
    have hr : m.root = x := by simpa using List.find?_some hf
    have h1 : over st.d m.cov = x := by
      unfold over
      cases hg : st.d.find? (fun y => decide (y.cov = m.cov)) with
      | none => exact absurd (List.find?_eq_none.1 hg m hm) (by simp)
      | some m2 =>
        have h2 : m2.cov = m.cov := by simpa using List.find?_some hg
        have h3 := cov_inj hT.covs (List.mem_of_find?_eq_some hg) hm h2
        subst h3
        exact hr
    have h2 : over st.d x = x := by
      unfold over
      cases hg : st.d.find? (fun y => decide (y.cov = x)) with
      | none => rfl
      | some m3 =>
        have h3 : m3.cov = x := by simpa using List.find?_some hg
        obtain ⟨i, hi⟩ := List.mem_iff_getElem?.1 (List.mem_of_find?_eq_some hg)
        cases i with
        | zero =>
          obtain ⟨q, hq⟩ := hI.top
          obtain rfl := Option.some.inj (hi.symm.trans hq)
          exact h3
        | succ i =>
          have h4 := (hI.covs (i + 1) m3 hi (Nat.succ_pos _)).2.2
          unfold isRoot at h4
          rw [List.any_eq_false] at h4
          exact absurd (by simp [hr, h3]) (h4 m hm)
    show over st.d m.cov = _
    rw [h1, h2]
theorem num_name {ls : List E.Ent} (hu : E.Up ls) {k : Int} {n : List UInt8} (h : E.nameOf ls k = some n) : E.numOf ls n = k ∧ ∃ e ∈ ls, e.name = n := by
  unfold E.nameOf at h
  cases hf : ls.find? (fun x => decide (x.no = k)) with
  | none => rw [hf] at h; cases h
  | some e =>
    rw [hf] at h
    have hn : e.name = n := Option.some.inj h
    have he := List.mem_of_find?_eq_some hf
    have hk : e.no = k := by simpa using List.find?_some hf
    refine ⟨?_, e, he, hn⟩
    have hm : e ∈ E.fil n ls := List.mem_filter.2 ⟨he, by simp [hn]⟩
    unfold E.numOf
    rw [E.find_fil]
    rcases E.fil_one hu n with h1 | ⟨x, h1⟩
    · rw [h1] at hm; cases hm
    · rw [h1] at hm ⊢
      obtain rfl := List.mem_singleton.1 hm
      exact hk
theorem called_is {x : Int} {n : List UInt8} (h : called st x = some n) : isDir st.n (above st x) = true ∧ E.nameOf (gets st.n (above st x)).es (under st.d x) = some n := by
  unfold called at h
  split at h
  · exact ⟨by assumption, h⟩
  · cases h
theorem hit_called (hI : Inv st) (hT : Tree st) {x : Int} {n : List UInt8} (h : called st x = some n) : hit st (above st x) n = over st.d x := by
  unfold hit
  rw [(num_name (gets_up hT _) (called_is h).2).1, over_under hI hT]
theorem called_clean (hT : Tree st) {x : Int} {n : List UInt8} (h : called st x = some n) : V.M.check n = 0 := by
  obtain ⟨hd, hn⟩ := called_is h
  obtain ⟨_, e, he, rfl⟩ := num_name (gets_up hT _) hn
  obtain ⟨d, hg, _⟩ := isDir_iff.1 hd
  rw [gets_some hg] at he
  exact hT.clean d (get_some hg).1 e he
theorem clean_is {n : List UInt8} (h : V.M.check n = 0) : n ≠ [] ∧ n ≠ [46] ∧ n ≠ [46, 46] ∧ (47 : UInt8) ∉ n ∧ (0 : UInt8) ∉ n ∧ ¬ 255 < n.length := by
  unfold V.M.check at h
  split at h
  · cases h
  · rename_i h1
    split at h
    · cases h
    · rename_i h2
      exact ⟨fun e => h1 (.inl e), fun e => h1 (.inr (.inl e)), fun e => h1 (.inr (.inr (.inl e))), fun e => h1 (.inr (.inr (.inr (.inl e)))), fun e => h1 (.inr (.inr (.inr (.inr e)))), h2⟩
theorem root_may (k : Int) : may 0 0 st k = true := by unfold may PM.may; simp
theorem kind_dir {k : Int} (h : isDir st.n k = true) : kind st k = 1 := by
  obtain ⟨d, hg, hk⟩ := isDir_iff.1 h
  unfold kind
  rw [gets_some hg]; exact hk
theorem descend (hI : Inv st) (hT : Tree st) {follow must : Bool} {hops : Nat} : ∀ {p : List Int} {x : Int} (r : List (List UInt8)), Climb st x p → (∀ y ∈ p, over st.d y = y) → r ≠ [] →
    run st 0 0 follow 1 ((accOf st p).reverse ++ r) must hops = run st 0 0 follow x r must hops
  | [], x, r, h, _, _ => by
    obtain rfl : x = 1 := h
    simp [accOf]
  | y :: p, x, r, h, ho, hr => by
    have ha := h
    obtain ⟨e, hx1, hx0, hcs, hc⟩ := h
    subst e
    obtain ⟨n, hn⟩ := Option.isSome_iff_exists.1 hcs
    have hacc : (accOf st (x :: p)).reverse ++ r = (accOf st p).reverse ++ (n :: r) := by simp [accOf, hn]
    rw [hacc, descend hI hT (n :: r) hc (fun z hz => ho z (List.mem_cons_of_mem _ hz)) (by simp)]
    have hcl := clean_is (called_clean hT hn)
    have hov := ho x (List.mem_cons_self ..)
    have hh : hit st (above st x) n = x := (hit_called hI hT hn).trans hov
    have hkx : kind st x = 1 := kind_dir (ha.isDir hI)
    have hre : r.isEmpty = false := by cases r with | nil => exact absurd rfl hr | cons a b => rfl
    rw [run_go (kind_dir (called_is hn).1) (root_may _) hcl.2.2.1 hcl.2.2.2.2.2 (by rw [hh, hkx]; rintro ⟨h5, _⟩; cases h5) (by rw [hh]; exact fun e => hx0 e.1) (by rw [hh, hkx]; exact fun e => e.2.1 rfl) hre, hh]
theorem over_dir (hI : Inv st) {x : Int} (h : isDir st.n x = true) : isDir st.n (over st.d x) = true := by
  unfold over
  cases hf : st.d.find? (fun m => decide (m.cov = x)) with
  | none => exact h
  | some m =>
    obtain ⟨i, hi⟩ := List.mem_iff_getElem?.1 (List.mem_of_find?_eq_some hf)
    obtain ⟨nd, hg, _, hk⟩ := hI.roots i m hi
    exact isDir_iff.2 ⟨nd, hg, hk⟩
theorem last_step (hI : Inv st) (hT : Tree st) {follow must : Bool} {hops : Nat} {p : List Int} {x : Int} (h : Climb st x (x :: p)) (ho : ∀ y ∈ p, over st.d y = y) :
    ∃ f : Fd, run st 0 0 follow 1 (accOf st (x :: p)).reverse must hops = (f, 0) ∧ f.no = over st.d x := by
  have ha := h
  obtain ⟨_, hx1, hx0, hcs, hc⟩ := h
  obtain ⟨n, hn⟩ := Option.isSome_iff_exists.1 hcs
  have hacc : (accOf st (x :: p)).reverse = (accOf st p).reverse ++ [n] := by simp [accOf, hn]
  have hcl := clean_is (called_clean hT hn)
  have hh := hit_called hI hT hn
  have hod := over_dir hI (ha.isDir hI)
  have hkx : kind st (over st.d x) = 1 := kind_dir hod
  refine ⟨⟨above st x, n, over st.d x, must⟩, ?_, rfl⟩
  rw [hacc, descend hI hT [n] hc ho (by simp), run_last (kind_dir (called_is hn).1) (root_may _) hcl.2.2.1 hcl.2.2.2.2.2 (by rw [hh, hkx]; rintro ⟨h5, _⟩; cases h5) (by rintro ⟨_, h5⟩; cases h5) (by rw [hh, hkx]; exact fun e => e.2.1 rfl) rfl, hh]
theorem jn_cons2 (a b : List UInt8) (r : List (List UInt8)) : jn (a :: b :: r) = a ++ 47 :: jn (b :: r) := by
  unfold jn
  rw [Lib.join_cons, Lib.join_cons]
  unfold Lib.joinTail
  simp
theorem pieces_jn : ∀ (l : List (List UInt8)), (∀ n ∈ l, (47 : UInt8) ∉ n) → l ≠ [] → V.M.pieces (jn l) = l
  | [a], h, _ => by
    have : jn [a] = a := Lib.join_one _ _
    rw [this]; exact V.M.pieces_none a (h a (List.mem_cons_self ..))
  | a :: b :: r, h, _ => by
    rw [jn_cons2, V.M.pieces_app, V.M.pieces_none a (h a (List.mem_cons_self ..)), pieces_jn (b :: r) (fun n hn => h n (List.mem_cons_of_mem _ hn)) (by simp)]
    rfl
theorem zero_jn : ∀ (l : List (List UInt8)), (∀ n ∈ l, (0 : UInt8) ∉ n) → (0 : UInt8) ∉ jn l
  | [], _ => by simp [jn, Lib.join_nil]
  | [a], h => by
    have : jn [a] = a := Lib.join_one _ _
    rw [this]; exact h a (List.mem_cons_self ..)
  | a :: b :: r, h => by
    rw [jn_cons2]
    intro e
    rcases List.mem_append.1 e with e | e
    · exact h a (List.mem_cons_self ..) e
    · rcases List.mem_cons.1 e with e | e
      · cases e
      · exact zero_jn (b :: r) (fun n hn => h n (List.mem_cons_of_mem _ hn)) e
theorem keep_clean : ∀ (l : List (List UInt8)), (∀ n ∈ l, V.M.check n = 0) → l.filter V.M.keep = l := by
  intro l h
  rw [List.filter_eq_self]
  intro n hn
  have := clean_is (h n hn)
  exact V.M.keep_other this.1 this.2.1
theorem parts_path (l : List (List UInt8)) (h : ∀ n ∈ l, V.M.check n = 0) : V.M.parts (47 :: jn l) = l ∧ V.M.parts (47 :: jn l ++ [47, 46]) = l := by
  have hp : (V.M.pieces (jn l)).filter V.M.keep = l := by
    cases l with
    | nil => rfl
    | cons a r => rw [pieces_jn (a :: r) (fun n hn => (clean_is (h n hn)).2.2.2.1) (by simp)]; exact keep_clean _ h
  constructor
  · unfold V.M.parts
    rw [V.M.pieces_slash, List.filter_cons, if_neg (by simp [V.M.keep_empty])]; exact hp
  · unfold V.M.parts
    rw [List.cons_append, V.M.pieces_slash, List.filter_cons, if_neg (by simp [V.M.keep_empty]), V.M.pieces_app, List.filter_append, hp, V.M.pieces_none [46] (by decide)]
    simp [V.M.keep_dot]
theorem path_fine {t : List UInt8} (h0 : (0 : UInt8) ∉ t) (hl : t.length ≤ 4095) : V.M.path (47 :: t) = 0 := by
  unfold V.M.path
  rw [if_neg (by simp), if_neg ?_, if_neg (by simp only [List.length_cons]; omega)]
  rintro (h | h)
  · exact h rfl
  · rcases List.mem_cons.1 h with h | h
    · cases h
    · exact h0 h
theorem home (hI : Inv st) (hT : Tree st) {no : Int} {s : List UInt8} {p : List Int} (hp : Climb st no p) (hs : s = 47 :: jn (accOf st p).reverse) (hv : ∀ y ∈ p.tail, over st.d y = y) (hl : s.length ≤ 4000) :
    ∃ f g : Fd, path st 0 0 true s = (f, 0) ∧ path st 0 0 false (s ++ [47, 46]) = (g, 0) ∧ f.no = over st.d no ∧ g.no = over st.d no := by
  have hcl : ∀ n ∈ (accOf st p).reverse, V.M.check n = 0 := fun n hn => by
    obtain ⟨x, _, hx⟩ := List.mem_filterMap.1 (List.mem_reverse.1 hn)
    exact called_clean hT hx
  obtain ⟨hp1, hp2⟩ := parts_path _ hcl
  have hz := zero_jn _ fun n hn => (clean_is (hcl n hn)).2.2.2.2.1
  subst hs
  simp only [List.length_cons] at hl
  have h1 : V.M.path (47 :: jn (accOf st p).reverse) = 0 := path_fine hz (by omega)
  have h2 : V.M.path (47 :: jn (accOf st p).reverse ++ [47, 46]) = 0 := by
    rw [List.cons_append]
    refine path_fine ?_ (by simp only [List.length_append, List.length_cons, List.length_nil]; omega)
    intro e
    rcases List.mem_append.1 e with e | e
    · exact hz e
    · revert e; decide
  unfold path
  rw [if_pos h1, if_pos h2, hp1, hp2]
  cases p with
  | nil =>
    obtain rfl : no = 1 := hp
    have ho : over st.d 1 = 1 := by
      obtain ⟨q, hq⟩ := hI.top
      unfold over
      cases hd : st.d with
      | nil => rw [hd] at hq; cases hq
      | cons m r =>
        rw [hd] at hq
        obtain rfl := Option.some.inj hq
        simp
    have ha : (accOf st []).reverse = [] := rfl
    rw [ha, run_end, run_end]
    exact ⟨_, _, rfl, rfl, ho.symm, ho.symm⟩
  | cons y p =>
    obtain rfl : no = y := hp.1
    obtain ⟨f, hf, hfn⟩ := last_step hI hT (follow := true) (must := V.M.slash (47 :: jn (accOf st (no :: p)).reverse)) (hops := 0) hp hv
    obtain ⟨g, hg, hgn⟩ := last_step hI hT (follow := false) (must := V.M.slash (47 :: jn (accOf st (no :: p)).reverse ++ [47, 46])) (hops := 0) hp hv
    exact ⟨f, g, hf, hg, hfn, hgn⟩
/-- what lies on a way, by how often one goes up -/
theorem climb_trail : ∀ {p : List Int} {x : Int}, Climb st x p → ∀ (k : Nat) (y : Int), p[k]? = some y → y = trail st x k
  | [], _, _, k, y, h => by simp at h
  | z :: p, x, h, 0, y, hy => by
    have : z = y := by simpa using hy
    rw [← this]; exact h.1.symm
  | z :: p, x, h, k + 1, y, hy => by
    have h1 := climb_trail h.2.2.2.2 k y (by simpa using hy)
    rw [h1]
    clear h1 hy
    induction k with
    | zero => rfl
    | succ k ih => show above st _ = above st _; rw [ih]
theorem home_where (hI : Inv st) (hT : Tree st) {no : Int} {s : List UInt8} (hw : where_ st no = some s) (hv : ∀ k : Nat, (k : Int) ≤ st.last → over st.d (trail st no (k + 1)) = trail st no (k + 1)) (hl : s.length ≤ 4000) :
    ∃ f g : Fd, path st 0 0 true s = (f, 0) ∧ path st 0 0 false (s ++ [47, 46]) = (g, 0) ∧ f.no = over st.d no ∧ g.no = over st.d no := by
  have hd : isDir st.n no = true := by
    cases h : isDir st.n no with
    | true => rfl
    | false => rw [where_none h] at hw; cases hw
  have hw' : whereL st (way st no) [] = some s := by unfold where_ at hw; rw [if_pos hd] at hw; exact hw
  obtain ⟨p, hp, hlp, _⟩ := Climb.of_where _ _ _ _ _ hw'
  have hway : way st no = p ++ [1] := hp.way (above_one hI) _ _ hlp (by simp)
  rw [hway, Climb.where_ [] hp] at hw'
  have hs : s = 47 :: jn (accOf st p).reverse := by simpa using (Option.some.inj hw').symm
  refine home hI hT hp hs (fun y hy => ?_) hl
  have hcl := climb_len hI hp
  have hln := hI.len
  cases p with
  | nil => cases hy
  | cons z p =>
    obtain ⟨k, hk⟩ := List.mem_iff_getElem?.1 (show y ∈ p from hy)
    have hkl := (List.getElem?_eq_some_iff.1 hk).1
    have h1 := climb_trail hp (k + 1) y (by simpa using hk)
    rw [h1]
    simp only [List.length_cons] at hcl
    exact hv k (by omega)
end
end Go.Proofs.YtlceaecibjbeaaaGreat.K
