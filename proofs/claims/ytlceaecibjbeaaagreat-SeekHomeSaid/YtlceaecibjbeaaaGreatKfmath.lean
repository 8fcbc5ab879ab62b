/-
  What leads to no link leads there whether or not it would be followed: the mathematics.
-/
import Derived.Test.YtlceaecibjbeaaaGreatKtree
import Derived.Test.YtlceaecibjbeaaaGreatLways
namespace Go.Proofs.YtlceaecibjbeaaaGreat.K
open G

/-- what lies above a directory is one, and what is covered is one -/
structure Rooted (st : St) : Prop where
  ups : ∀ p ∈ st.n, p.kind = 1 → 1 ≤ p.up
  dirs : ∀ m ∈ st.d, isDir st.n m.cov = true
theorem isDir_app {n : List T.Nd} {x : T.Nd} {k : Int} (h : isDir n k = true) : isDir (n ++ [x]) k = true := by
  obtain ⟨y, hy, hk⟩ := isDir_iff.1 h
  refine isDir_iff.2 ⟨y, ?_, hk⟩
  unfold G.get at *
  rw [List.find?_append, hy]; rfl
theorem isDir_made {st : St} {x : T.Nd} {k : Int} (h : isDir st.n k = true) : isDir (make st x).1.n k = true := by
  unfold make
  split
  · exact isDir_app h
  · exact h
theorem isDir_set {n : List T.Nd} {d : T.Nd} {ls : List E.Ent} {k : Int} (hd : get n d.no = some d) (h : isDir n k = true) : isDir (setN n { d with es := ls }) k = true := by
  obtain ⟨y, hy, hk⟩ := isDir_iff.1 h
  refine isDir_iff.2 ?_
  rw [get_setN, hy]
  by_cases e : k = d.no
  · subst e
    rw [hd] at hy
    cases hy
    exact ⟨{ d with es := ls }, by simp, hk⟩
  · exact ⟨y, by simp [e], hk⟩
theorem rooted_new (b c : Int) : Rooted (begin_ bare 1 b c) := by
  refine ⟨fun p hp _ => ?_, fun m hm => ?_⟩
  · obtain rfl := List.mem_singleton.1 hp; show (1 : Int) ≤ 1; decide
  · obtain rfl := List.mem_singleton.1 hm; rfl
theorem settle_dirs {n : List T.Nd} {d : List Mt} {k : Int} {q : U.Sp} (h : ∀ m ∈ d, isDir n m.cov = true) : ∀ m ∈ G.settle d k q, isDir n m.cov = true := by
  intro m hm
  obtain ⟨i, hi⟩ := List.mem_iff_getElem?.1 hm
  obtain ⟨m', h1, _, h3⟩ := settle_get hi
  rw [← h3]; exact h m' (List.mem_of_getElem? h1)
theorem Rooted.mounted {st : St} (h : Rooted st) (hlo : 0 ≤ st.last) (k b c : Int) : Rooted (mount st k b c).1 := by
  unfold mount
  split
  · rename_i h1
    split
    · rename_i h2
      split
      · exact h
      · split
        · exact h
        · split
          · have hkd : isDir st.n k = true := by unfold isDir; rw [h1, h2]; rfl
            refine ⟨fun p hp hk => ?_, fun m hm => ?_⟩
            · rcases List.mem_append.1 hp with hp | hp
              · exact h.ups p hp hk
              · obtain rfl := List.mem_singleton.1 hp; show (1 : Int) ≤ st.last + 1; omega
            · rcases List.mem_append.1 hm with hm | hm
              · exact isDir_app (h.dirs m hm)
              · obtain rfl := List.mem_singleton.1 hm; exact isDir_app hkd
          · exact h
    · exact h
  · exact h
theorem Rooted.grows {st : St} (h : Rooted st) (hI : Inv st) (h1 : 1 ≤ st.last) (i : It) : Rooted (growSt st i) := by
  by_cases h4 : i.kind = 4
  · rw [grow_four h4]; exact h.mounted hI.lo _ _ _
  · by_cases hv : vain (gets st.n (place st.last i.dir)) i
    · rw [grow_vain h4 hv]; exact h
    · rw [grow_node h4 hv]
      have hpr := place_range (dir := i.dir) h1
      have hk : (gets st.n (place st.last i.dir)).kind = 1 := Decidable.byContradiction fun e => hv (.inl e)
      generalize place st.last i.dir = pl at *
      obtain ⟨d, hd'⟩ : ∃ d, get st.n pl = some d := by
        cases e : get st.n pl with
        | none => rw [gets_none e] at hk; cases hk
        | some d => exact ⟨d, rfl⟩
      rw [gets_some hd'] at hk ⊢
      obtain ⟨hdm, hdn⟩ := get_some hd'
      have hmk : Rooted (make st (node d i pl)).1 := by
        refine ⟨fun p hp hkp => ?_, fun m hm => ?_⟩
        · rcases make_mem hp with hp | rfl
          · exact h.ups p hp hkp
          · show 1 ≤ (if i.kind = 1 then pl else 0)
            have : i.kind = 1 := hkp
            rw [if_pos this]; exact hpr.1
        · have hmm : ∀ m ∈ (make st (node d i pl)).1.d, isDir st.n m.cov = true := by
            unfold make
            split
            · obtain ⟨q, hq⟩ := taken_settle st.d (node d i pl).dev (blk (node d i pl)) 1
              dsimp only
              rw [hq]; exact settle_dirs h.dirs
            · exact h.dirs
          exact isDir_made (hmm m hm)
      have hgm := make_get (x := node d i pl) hd'
      generalize make st (node d i pl) = r at *
      obtain ⟨st', rx, ry⟩ := r
      dsimp only at *
      by_cases hy : ry = 0
      · rw [named_ok hy]
        dsimp only
        refine ⟨fun p hp hkp => ?_, fun m hm => isDir_set (by rw [hdn]; exact hgm) (hmk.dirs m hm)⟩
        rcases mem_setN hp with ⟨rfl, _⟩ | hp
        · exact hmk.ups d (get_some hgm).1 hkp
        · exact hmk.ups p hp hkp
      · rw [named_err hy]; exact hmk
theorem rooted_all {st : St} (hG : Grown st) (hR : Rooted st) : ∀ (ls : List It), (∀ i ∈ ls, i.data.size ≤ 2000) → st.last + ls.length < 1000 → Rooted (growAll st ls)
  | [], _, _ => hR
  | i :: r, hd, hl => by
    have hl' : st.last + ((r.length + 1 : Nat) : Int) < 1000 := hl
    obtain ⟨h1, h2, h3⟩ := hG.grows i (by have := hd i (List.mem_cons_self ..); omega) (by omega)
    exact rooted_all h1 (hR.grows hG.inv hG.one i) r (fun j hj => hd j (List.mem_cons_of_mem _ hj)) (by omega)
/-- what lies above a directory has a number -/
theorem Rooted.above {st : St} (h : Rooted st) {k : Int} (hk : kind st k = 1) : 1 ≤ above st k := by
  have hex : ∃ x, get st.n k = some x := by
    cases e : get st.n k with
    | none => unfold kind at hk; rw [gets_none e] at hk; cases hk
    | some x => exact ⟨x, rfl⟩
  obtain ⟨x, hx⟩ := hex
  have hd : isDir st.n k = true := isDir_iff.2 ⟨x, hx, by unfold kind at hk; rw [gets_some hx] at hk; exact hk⟩
  unfold G.above
  rw [if_pos hd]
  have hu : isDir st.n (under st.d k) = true := by
    unfold under
    cases hf : st.d.find? (fun m => decide (m.root = k)) with
    | none => exact hd
    | some m => exact h.dirs m (List.mem_of_find?_eq_some hf)
  obtain ⟨y, hy, hyk⟩ := isDir_iff.1 hu
  rw [gets_some hy]
  exact h.ups y (get_some hy).1 hyk

/-- the two ways, followed or not -/
structure Two (st : St) (F T : Fd × Int) : Prop where
  err : F.2 ≠ 0 → T = F ∧ F.1 = noFd
  same : F.2 = 0 → kind st F.1.no ≠ 3 → T = F
  top : F.2 = 0 → F.1.name = [] → F.1.dir = 0 ∧ F.1.no ≠ 0
  named : F.2 = 0 → F.1.name ≠ [] → kind st F.1.dir = 1 ∧ F.1.no = hit st F.1.dir F.1.name
  rng : 0 ≤ F.1.no ∧ F.1.no ≤ 9223372036854775807
theorem Two.fail (st : St) {e : Int} (he : e ≠ 0) : Two st (noFd, e) (noFd, e) := ⟨fun _ => ⟨rfl, rfl⟩, fun h => absurd h he, fun h => absurd h he, fun h => absurd h he, by show (0 : Int) ≤ 0 ∧ (0 : Int) ≤ 9223372036854775807; decide⟩
theorem parts_ne {l p : List UInt8} (h : p ∈ V.M.parts l) : p ≠ [] := (V.M.part_is h).1
theorem follow_all {st : St} (hI : Inv st) (hT : Tree st) (hR : Rooted st) (hG : Ranged st) (hl : st.last < 1000000) (cu cg : Int) (here : Int) (rest : List (List UInt8)) (must : Bool) (hops : Nat) (hh : 1 ≤ here ∧ here ≤ 9223372036854775807) (hr : ∀ q ∈ rest, q ≠ []) :
    Two st (run st cu cg false here rest must hops) (run st cu cg true here rest must hops) := by
  match rest, hr with
  | [], _ =>
    rw [run_end, run_end]
    exact ⟨fun h => absurd rfl h, fun _ _ => rfl, fun _ _ => ⟨rfl, by show here ≠ 0; omega⟩, fun _ h => absurd rfl h, by show 0 ≤ here ∧ here ≤ _; omega⟩
  | p :: r, hr =>
    have hp0 : p ≠ [] := hr p (List.mem_cons_self ..)
    have hr' : ∀ q ∈ r, q ≠ [] := fun q hq => hr q (List.mem_cons_of_mem _ hq)
    by_cases h1n : kind st here ≠ 1
    · rw [run_notdir h1n, run_notdir h1n]; exact Two.fail st (by decide)
    have h1 : kind st here = 1 := Decidable.not_not.1 h1n
    by_cases h2' : may cu cg st here = false
    · rw [run_access h1 h2', run_access h1 h2']; exact Two.fail st (by decide)
    have h2 : may cu cg st here = true := by simpa using h2'
    by_cases h3 : p = [46, 46]
    · rw [run_up h1 h2 h3, run_up h1 h2 h3]
      exact follow_all hI hT hR hG hl cu cg (above st here) r must hops ⟨hR.above h1, (hG.above here).2⟩ hr'
    by_cases h4 : 255 < p.length
    · rw [run_long h1 h2 h4, run_long h1 h2 h4]; exact Two.fail st (by decide)
    have hT1 : goes true must r = true := rfl
    by_cases hk : kind st (hit st here p) = 3
    · by_cases hg : goes false must r = true
      · by_cases h6 : 8 ≤ hops
        · rw [run_loop h1 h2 h3 h4 hk hg h6, run_loop h1 h2 h3 h4 hk hT1 h6]; exact Two.fail st (by decide)
        by_cases h7 : text st (hit st here p) = []
        · rw [run_empty h1 h2 h3 h4 hk hg (by omega) h7, run_empty h1 h2 h3 h4 hk hT1 (by omega) h7]; exact Two.fail st (by decide)
        rw [run_jump h1 h2 h3 h4 hk hg (by omega) h7, run_jump h1 h2 h3 h4 hk hT1 (by omega) h7]
        refine follow_all hI hT hR hG hl cu cg _ _ _ (hops + 1) ?_ ?_
        · unfold from_; split <;> omega
        · intro q hq
          rcases List.mem_append.1 hq with hq | hq
          · exact parts_ne hq
          · exact hr' q hq
      · have hgm : must = false ∧ r.isEmpty = true := by
          unfold goes at hg
          cases must <;> cases hre : r.isEmpty <;> simp_all
        obtain ⟨rfl, hre⟩ := hgm
        have h5 : ¬ (kind st (hit st here p) = 3 ∧ goes false false r = true) := fun e => hg e.2
        rw [run_last (follow := false) h1 h2 h3 h4 h5 (by rw [hre]; rintro ⟨_, e⟩; cases e) (by rw [hre]; rintro ⟨_, _, e | e⟩ <;> cases e) hre]
        exact ⟨fun h => absurd rfl h, fun _ h => absurd hk h, fun _ h => absurd h hp0, fun _ _ => ⟨h1, rfl⟩, by have := hit_range hI hT here p; show 0 ≤ hit st here p ∧ hit st here p ≤ _; omega⟩
    · have h5 : ∀ f, ¬ (kind st (hit st here p) = 3 ∧ goes f must r = true) := fun f e => hk e.1
      by_cases h6 : hit st here p = 0 ∧ r.isEmpty = false
      · rw [run_none h1 h2 h3 h4 (h5 false) h6.1 h6.2, run_none h1 h2 h3 h4 (h5 true) h6.1 h6.2]; exact Two.fail st (by decide)
      by_cases h7 : hit st here p ≠ 0 ∧ kind st (hit st here p) ≠ 1 ∧ (r.isEmpty = false ∨ must = true)
      · rw [run_file h1 h2 h3 h4 (h5 false) h7.1 h7.2.1 h7.2.2, run_file h1 h2 h3 h4 (h5 true) h7.1 h7.2.1 h7.2.2]; exact Two.fail st (by decide)
      by_cases h8 : r.isEmpty = true
      · rw [run_last h1 h2 h3 h4 (h5 false) h6 h7 h8, run_last h1 h2 h3 h4 (h5 true) h6 h7 h8]
        exact ⟨fun h => absurd rfl h, fun _ _ => rfl, fun _ h => absurd h hp0, fun _ _ => ⟨h1, rfl⟩, by have := hit_range hI hT here p; show 0 ≤ hit st here p ∧ hit st here p ≤ _; omega⟩
      · have h8' : r.isEmpty = false := by simpa using h8
        rw [run_go h1 h2 h3 h4 (h5 false) h6 h7 h8', run_go h1 h2 h3 h4 (h5 true) h6 h7 h8']
        refine follow_all hI hT hR hG hl cu cg _ r must hops ?_ hr'
        have hn0 : hit st here p ≠ 0 := fun e => h6 ⟨e, h8'⟩
        have := hit_range hI hT here p
        omega
termination_by (8 - hops, rest.length)
decreasing_by
  · exact Prod.Lex.right _ (Nat.lt_succ_self _)
  · exact Prod.Lex.left _ _ (by omega)
  · exact Prod.Lex.right _ (Nat.lt_succ_self _)
theorem follow_path {st : St} (hI : Inv st) (hT : Tree st) (hR : Rooted st) (hG : Ranged st) (hl : st.last < 1000000) (cu cg : Int) (s : List UInt8) : Two st (path st cu cg false s) (path st cu cg true s) := by
  unfold path
  by_cases h0 : V.M.path s = 0
  · rw [if_pos h0, if_pos h0]
    exact follow_all hI hT hR hG hl cu cg 1 _ _ 0 (by decide) fun q hq => parts_ne hq
  · rw [if_neg h0, if_neg h0]
    exact Two.fail st h0
end Go.Proofs.YtlceaecibjbeaaaGreat.K
