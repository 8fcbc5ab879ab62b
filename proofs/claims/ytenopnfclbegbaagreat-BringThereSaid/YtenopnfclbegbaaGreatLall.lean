/-
  What holds of every world holds behind each call.
-/
import Derived.Test.YtenopnfclbegbaaGreatLnode
namespace Go.Proofs.YtenopnfclbegbaaGreat.G

theorem get_setN (n : List T.Nd) (x : T.Nd) (k : Int) : get (setN n x) k = (get n k).map fun p => if k = x.no then x else p := by
  unfold get setN
  rw [find_map]
  have e : ((fun p : T.Nd => decide (p.no = k)) ∘ fun p : T.Nd => if p.no = x.no then x else p) = fun p => decide (p.no = k) := by
    funext p
    show decide ((if p.no = x.no then x else p).no = k) = decide (p.no = k)
    split
    · rename_i h; rw [h]
    · rfl
  rw [e]
  cases h : n.find? fun p => decide (p.no = k) with
  | none => rfl
  | some p =>
    have hp : p.no = k := by simpa using List.find?_some h
    simp [hp]
theorem get_dropN (n : List T.Nd) (k j : Int) : get (dropN n k) j = if j = k then none else get n j := by
  unfold get dropN
  rw [List.find?_filter]
  split
  · rename_i h
    subst h
    refine List.find?_eq_none.2 fun p _ => ?_
    by_cases e : p.no = j <;> simp [e]
  · rename_i h
    congr 1
    funext p
    by_cases e : p.no = j
    · have : p.no ≠ k := fun e2 => h (e ▸ e2)
      simp [e, h]
    · simp [e]
theorem setN_rise {n : List T.Nd} (h : n.Pairwise fun p q => p.no < q.no) (x : T.Nd) : (setN n x).Pairwise fun p q => p.no < q.no := by
  unfold setN
  rw [List.pairwise_map]
  refine h.imp fun {p q} hpq => ?_
  have e : ∀ p : T.Nd, (if p.no = x.no then x else p).no = p.no := fun p => by
    split
    · rename_i h; exact h.symm
    · rfl
  rw [e, e]
  exact hpq
theorem mem_setN {n : List T.Nd} {x p : T.Nd} (h : p ∈ setN n x) : (p = x ∧ ∃ q ∈ n, q.no = x.no) ∨ p ∈ n := by
  obtain ⟨q, hq, e⟩ := List.mem_map.1 h
  split at e
  · rename_i h1
    exact .inl ⟨e.symm, q, hq, h1⟩
  · exact .inr (e ▸ hq)
theorem mem_dropN {n : List T.Nd} {k : Int} {p : T.Nd} (h : p ∈ dropN n k) : p ∈ n ∧ p.no ≠ k := by
  obtain ⟨h1, h2⟩ := List.mem_filter.1 h
  exact ⟨h1, by simpa using h2⟩
theorem get_new {n : List T.Nd} {x : T.Nd} {last k : Int} (hg : ∀ p ∈ n, p.no ≤ last) (hx : x.no = last + 1) : get (n ++ [x]) k = if k = last + 1 then some x else get n k := by
  split
  · rename_i h
    subst h
    rw [← hx]
    exact get_snoc fun p hp e => by have := hg p hp; omega
  · rename_i h
    unfold get
    rw [List.find?_append]
    cases n.find? fun p => decide (p.no = k) with
    | some p => rfl
    | none =>
      have : ¬ x.no = k := by omega
      simp [this]
theorem snoc_rise {n : List T.Nd} {x : T.Nd} {last : Int} (h : n.Pairwise fun p q => p.no < q.no) (hg : ∀ p ∈ n, p.no ≤ last) (hx : x.no = last + 1) : (n ++ [x]).Pairwise fun p q => p.no < q.no :=
  List.pairwise_append.2 ⟨h, List.pairwise_singleton _ _, fun p hp q hq => by
    obtain rfl := List.mem_singleton.1 hq
    have := hg p hp
    omega⟩
theorem length_setN (n : List T.Nd) (x : T.Nd) : (setN n x).length = n.length := by unfold setN; rw [List.length_map]
theorem length_dropN (n : List T.Nd) (k : Int) : (dropN n k).length ≤ n.length := List.length_filter_le _ _
theorem taken_settle (d : List Mt) (k x y : Int) : ∃ q, taken d k x y = settle d k q := by
  unfold taken
  cases h : mt d k with
  | none => exact ⟨⟨0, 0, 0, 0⟩, by unfold settle; rw [h]⟩
  | some m => exact ⟨_, rfl⟩
/-- the mounts have other spaces, and nothing else -/
theorem Inv.settled {st : St} (h : Inv st) (k : Int) (q : U.Sp) : Inv ⟨st.last, st.n, settle st.d k q⟩ := by
  obtain ⟨q0, hq0⟩ := h.top
  refine ⟨h.lo, h.rise, h.given, h.len, ?_, h.topn, ?_, ?_, ?_, ?_, h.plain, h.names, h.few, h.data⟩
  · have := settle_at st.d k q 0
    rw [hq0] at this
    cases hs : (settle st.d k q)[0]? with
    | none => rw [hs] at this; cases this
    | some m =>
      rw [hs] at this
      simp at this
      obtain ⟨a, b, c⟩ := m
      obtain ⟨rfl, rfl⟩ := this
      exact ⟨c, rfl⟩
  · intro i m hi
    obtain ⟨m', h1, h2, _⟩ := settle_get hi
    obtain ⟨nd, h3, h4⟩ := h.roots i m' h1
    exact ⟨nd, h2 ▸ h3, h4⟩
  · intro nd hnd
    show _ ∧ nd.dev ≤ (settle st.d k q).length
    rw [length_settle]
    exact h.devs nd hnd
  · intro i m hi h0
    obtain ⟨m', h1, _, h3⟩ := settle_get hi
    have := h.covs i m' h1 h0
    show _ ∧ _ ∧ isRoot (settle st.d k q) m.cov = false
    rw [isRoot_settle, ← h3]
    exact this
  · show (settle st.d k q).length ≤ 8
    rw [length_settle]
    exact h.mounts
theorem Inv.taken {st : St} (h : Inv st) (k x y : Int) : Inv ⟨st.last, st.n, taken st.d k x y⟩ := by
  obtain ⟨q, hq⟩ := taken_settle st.d k x y
  rw [hq]
  exact h.settled k q
/-- one more node on a mount that is there -/
theorem Inv.more {st : St} (h : Inv st) (x : T.Nd) (hno : x.no = st.last + 1) (hdev : 1 ≤ x.dev ∧ x.dev ≤ st.d.length) (hes : x.es = []) (hdt : x.data.size ≤ 2000000) : Inv ⟨st.last + 1, st.n ++ [x], st.d⟩ := by
  have hg : ∀ p ∈ st.n, p.no ≤ st.last := fun p hp => (h.given p hp).2
  have hlo := h.lo
  have keep : ∀ k y, get st.n k = some y → get (st.n ++ [x]) k = some y := fun k y e => by
    rw [get_new hg hno, if_neg, e]
    have := hg y (get_some e).1
    rw [(get_some e).2] at this
    omega
  refine ⟨by show 0 ≤ st.last + 1; omega, snoc_rise h.rise hg hno, ?_, ?_, h.top, ?_, ?_, ?_, ?_, h.mounts, ?_, ?_, ?_, ?_⟩
  · intro p hp
    show 1 ≤ p.no ∧ p.no ≤ st.last + 1
    rcases List.mem_append.1 hp with hp | hp
    · have := h.given p hp; omega
    · obtain rfl := List.mem_singleton.1 hp; omega
  · show ((st.n ++ [x]).length : Int) ≤ st.last + 1
    have := h.len
    rw [List.length_append]
    show ((st.n.length + 1 : Nat) : Int) ≤ _
    omega
  · obtain ⟨nd, h1, h2⟩ := h.topn
    exact ⟨nd, keep _ _ h1, h2⟩
  · intro i m hi
    obtain ⟨nd, h1, h2⟩ := h.roots i m hi
    exact ⟨nd, keep _ _ h1, h2⟩
  · intro p hp
    rcases List.mem_append.1 hp with hp | hp
    · exact h.devs p hp
    · obtain rfl := List.mem_singleton.1 hp; exact hdev
  · intro i m hi h0
    have := h.covs i m hi h0
    exact ⟨this.1, by show m.cov ≤ st.last + 1; omega, this.2.2⟩
  · intro p hp hk
    rcases List.mem_append.1 hp with hp | hp
    · exact h.plain p hp hk
    · obtain rfl := List.mem_singleton.1 hp; exact hes
  · intro p hp e he
    rcases List.mem_append.1 hp with hp | hp
    · exact h.names p hp e he
    · obtain rfl := List.mem_singleton.1 hp; rw [hes] at he; cases he
  · intro p hp
    rcases List.mem_append.1 hp with hp | hp
    · exact h.few p hp
    · obtain rfl := List.mem_singleton.1 hp; rw [hes]; decide
  · intro p hp
    rcases List.mem_append.1 hp with hp | hp
    · exact h.data p hp
    · obtain rfl := List.mem_singleton.1 hp; exact hdt
/-- a node is another one of its kind -/
theorem Inv.other {st : St} (h : Inv st) (x y : T.Nd) (hx : get st.n y.no = some x) (hdev : y.dev = x.dev) (hkind : y.kind = x.kind) (hup : y.up = x.up) (hpl : y.kind ≠ 1 → y.es = []) (hnm : ∀ e ∈ y.es, 1 ≤ e.name.length ∧ e.name.length ≤ 255) (hfew : y.es.length ≤ 100000) (hdt : y.data.size ≤ 2000000) : Inv ⟨st.last, setN st.n y, st.d⟩ := by
  obtain ⟨hxm, hxn⟩ := get_some hx
  have keep : ∀ k z, get st.n k = some z → ∃ z', get (setN st.n y) k = some z' ∧ z'.dev = z.dev ∧ z'.kind = z.kind ∧ z'.up = z.up := fun k z e => by
    rw [get_setN, e]
    by_cases hk : k = y.no
    · subst hk
      rw [hx] at e
      cases e
      exact ⟨y, by simp, hdev, hkind, hup⟩
    · exact ⟨z, by simp [hk], rfl, rfl, rfl⟩
  refine ⟨h.lo, setN_rise h.rise y, ?_, ?_, h.top, ?_, ?_, ?_, h.covs, h.mounts, ?_, ?_, ?_, ?_⟩
  · intro p hp
    rcases mem_setN hp with ⟨rfl, q, hq, e⟩ | hp
    · rw [← e]; exact h.given q hq
    · exact h.given p hp
  · show ((setN st.n y).length : Int) ≤ st.last
    rw [length_setN]; exact h.len
  · obtain ⟨nd, h1, h2⟩ := h.topn
    obtain ⟨z, h3, _, _, h4⟩ := keep _ _ h1
    exact ⟨z, h3, h4.trans h2⟩
  · intro i m hi
    obtain ⟨nd, h1, h2, h3⟩ := h.roots i m hi
    obtain ⟨z, h4, h5, h6, _⟩ := keep _ _ h1
    exact ⟨z, h4, h5.trans h2, h6.trans h3⟩
  · intro p hp
    rcases mem_setN hp with ⟨rfl, _⟩ | hp
    · rw [hdev]; exact h.devs x hxm
    · exact h.devs p hp
  · intro p hp hk
    rcases mem_setN hp with ⟨rfl, _⟩ | hp
    · exact hpl hk
    · exact h.plain p hp hk
  · intro p hp e he
    rcases mem_setN hp with ⟨rfl, _⟩ | hp
    · exact hnm e he
    · exact h.names p hp e he
  · intro p hp
    rcases mem_setN hp with ⟨rfl, _⟩ | hp
    · exact hfew
    · exact h.few p hp
  · intro p hp
    rcases mem_setN hp with ⟨rfl, _⟩ | hp
    · exact hdt
    · exact h.data p hp
/-- a node that is no root goes -/
theorem Inv.less {st : St} (h : Inv st) (k : Int) (hk : isRoot st.d k = false) : Inv ⟨st.last, dropN st.n k, st.d⟩ := by
  have hroot : ∀ m ∈ st.d, m.root ≠ k := fun m hm e => by
    unfold isRoot at hk
    have := List.any_eq_false.1 hk m hm
    simp at this
    exact this e
  have keep : ∀ j z, j ≠ k → get st.n j = some z → get (dropN st.n k) j = some z := fun j z hj e => by rw [get_dropN, if_neg hj, e]
  refine ⟨h.lo, h.rise.filter _, fun p hp => h.given p (mem_dropN hp).1, ?_, h.top, ?_, ?_, fun p hp => h.devs p (mem_dropN hp).1, h.covs, h.mounts, fun p hp => h.plain p (mem_dropN hp).1, fun p hp => h.names p (mem_dropN hp).1, fun p hp => h.few p (mem_dropN hp).1, fun p hp => h.data p (mem_dropN hp).1⟩
  · show ((dropN st.n k).length : Int) ≤ st.last
    have := length_dropN st.n k
    have := h.len
    omega
  · obtain ⟨nd, h1, h2⟩ := h.topn
    obtain ⟨q, hq⟩ := h.top
    exact ⟨nd, keep _ _ (hroot _ (List.mem_of_getElem? hq)) h1, h2⟩
  · intro i m hi
    obtain ⟨nd, h1, h2⟩ := h.roots i m hi
    exact ⟨nd, keep _ _ (hroot m (List.mem_of_getElem? hi)) h1, h2⟩
theorem isRoot_snoc (d : List Mt) (m : Mt) (k : Int) : isRoot (d ++ [m]) k = (isRoot d k || decide (m.root = k)) := by unfold isRoot; simp
/-- one more mount -/
theorem Inv.begun {st : St} (h : Inv st) (k b c : Int) (hk : 1 ≤ k ∧ k ≤ st.last) (hr : isRoot st.d k = false) (h8 : st.d.length < 8) : Inv (begin_ st k b c) := by
  have hlo := h.lo
  have hg : ∀ p ∈ st.n, p.no ≤ st.last := fun p hp => (h.given p hp).2
  have keep : ∀ j y, get st.n j = some y → get (st.n ++ [rootNode (st.last + 1) (st.d.length + 1)]) j = some y := fun j y e => by
    rw [get_new hg rfl, if_neg, e]
    have := hg y (get_some e).1
    rw [(get_some e).2] at this
    omega
  have hnew : get (st.n ++ [rootNode (st.last + 1) (st.d.length + 1)]) (st.last + 1) = some (rootNode (st.last + 1) (st.d.length + 1)) := by rw [get_new hg rfl, if_pos rfl]
  unfold begin_
  refine ⟨by show 0 ≤ st.last + 1; omega, snoc_rise h.rise hg rfl, ?_, ?_, ?_, ?_, ?_, ?_, ?_, ?_, ?_, ?_, ?_, ?_⟩
  · intro p hp
    show 1 ≤ p.no ∧ p.no ≤ st.last + 1
    rcases List.mem_append.1 hp with hp | hp
    · have := h.given p hp; omega
    · obtain rfl := List.mem_singleton.1 hp; show 1 ≤ st.last + 1 ∧ st.last + 1 ≤ st.last + 1; omega
  · show ((st.n ++ [_]).length : Int) ≤ st.last + 1
    have := h.len
    rw [List.length_append]
    show ((st.n.length + 1 : Nat) : Int) ≤ _
    omega
  · obtain ⟨q, hq⟩ := h.top
    exact ⟨q, by rw [List.getElem?_append_left (List.getElem?_eq_some_iff.1 hq).1]; exact hq⟩
  · obtain ⟨nd, h1, h2⟩ := h.topn
    exact ⟨nd, keep _ _ h1, h2⟩
  · intro i m hi
    dsimp only at hi
    by_cases hl : i < st.d.length
    · rw [List.getElem?_append_left hl] at hi
      obtain ⟨nd, h1, h2⟩ := h.roots i m hi
      exact ⟨nd, keep _ _ h1, h2⟩
    · rw [List.getElem?_append_right (by omega)] at hi
      have hi0 : i - st.d.length = 0 := by
        have := (List.getElem?_eq_some_iff.1 hi).1
        simpa using this
      rw [hi0] at hi
      cases hi
      refine ⟨_, hnew, ?_, rfl⟩
      show (st.d.length : Int) + 1 = i + 1
      omega
  · intro p hp
    show 1 ≤ p.dev ∧ p.dev ≤ ((st.d ++ [_]).length : Nat)
    rw [List.length_append]
    rcases List.mem_append.1 hp with hp | hp
    · have := h.devs p hp
      show _ ∧ p.dev ≤ ((st.d.length + 1 : Nat) : Int)
      omega
    · obtain rfl := List.mem_singleton.1 hp
      show 1 ≤ (st.d.length : Int) + 1 ∧ (st.d.length : Int) + 1 ≤ ((st.d.length + 1 : Nat) : Int)
      omega
  · intro i m hi h0
    dsimp only at hi
    show 1 ≤ m.cov ∧ m.cov ≤ st.last + 1 ∧ isRoot (st.d ++ [_]) m.cov = false
    rw [isRoot_snoc]
    by_cases hl : i < st.d.length
    · rw [List.getElem?_append_left hl] at hi
      have := h.covs i m hi h0
      refine ⟨this.1, by omega, ?_⟩
      rw [this.2.2]
      simp
      omega
    · rw [List.getElem?_append_right (by omega)] at hi
      have hi0 : i - st.d.length = 0 := by
        have := (List.getElem?_eq_some_iff.1 hi).1
        simpa using this
      rw [hi0] at hi
      cases hi
      refine ⟨hk.1, by show k ≤ st.last + 1; omega, ?_⟩
      rw [hr]
      simp
      omega
  · show (st.d ++ [_]).length ≤ 8
    rw [List.length_append]
    show st.d.length + 1 ≤ 8
    omega
  · intro p hp hk
    rcases List.mem_append.1 hp with hp | hp
    · exact h.plain p hp hk
    · obtain rfl := List.mem_singleton.1 hp; rfl
  · intro p hp e he
    rcases List.mem_append.1 hp with hp | hp
    · exact h.names p hp e he
    · obtain rfl := List.mem_singleton.1 hp; cases he
  · intro p hp
    rcases List.mem_append.1 hp with hp | hp
    · exact h.few p hp
    · obtain rfl := List.mem_singleton.1 hp; show (0 : Nat) ≤ _; decide
  · intro p hp
    rcases List.mem_append.1 hp with hp | hp
    · exact h.data p hp
    · obtain rfl := List.mem_singleton.1 hp; show (0 : Nat) ≤ _; decide
theorem inv_new (b c : Int) : Inv (begin_ bare 1 b c) := by
  refine ⟨by show (0 : Int) ≤ 1; decide, List.pairwise_singleton _ _, ?_, by show (1 : Int) ≤ 1; decide, ⟨_, rfl⟩, ⟨rootNode 1 1, rfl, rfl⟩, ?_, ?_, ?_, by show (1 : Nat) ≤ 8; decide, ?_, ?_, ?_, ?_⟩
  · intro p hp; obtain rfl := List.mem_singleton.1 hp; show (1 : Int) ≤ 1 ∧ (1 : Int) ≤ 1; decide
  · intro i m hi
    have hl := (List.getElem?_eq_some_iff.1 hi).1
    obtain rfl : i = 0 := by have : i < 1 := hl; omega
    cases hi
    exact ⟨rootNode 1 1, rfl, rfl, rfl⟩
  · intro p hp; obtain rfl := List.mem_singleton.1 hp; show (1 : Int) ≤ 1 ∧ (1 : Int) ≤ 1; decide
  · intro i m hi h0
    have hl := (List.getElem?_eq_some_iff.1 hi).1
    have : i < 1 := hl
    omega
  · intro p hp _; obtain rfl := List.mem_singleton.1 hp; rfl
  · intro p hp e he; obtain rfl := List.mem_singleton.1 hp; cases he
  · intro p hp; obtain rfl := List.mem_singleton.1 hp; show (0 : Nat) ≤ _; decide
  · intro p hp; obtain rfl := List.mem_singleton.1 hp; show (0 : Nat) ≤ _; decide
/-- a covered directory's own mount: what is not covered may be -/
theorem Inv.mounted {st : St} (h : Inv st) (k b c : Int) : Inv (mount st k b c).1 := by
  unfold mount
  split
  · rename_i h1
    split
    · split
      · exact h
      · rename_i h2 h3
        split
        · exact h
        · rename_i h4
          split
          · obtain ⟨y, hy⟩ := Option.isSome_iff_exists.1 h1
            have hg := h.given y (get_some hy).1
            rw [(get_some hy).2] at hg
            have hr : isRoot st.d k = false := by
              cases e : isRoot st.d k with
              | false => rfl
              | true => exact absurd (.inr e) h3
            exact h.begun k b c hg hr (by omega)
          · exact h
    · exact h
  · exact h
theorem terr_dev {d : List Mt} {k x y : Int} (h : terr d k x y = 0) : 1 ≤ k ∧ k ≤ d.length := by
  cases hm : mt d k with
  | none => rw [terr_none hm] at h; cases h
  | some m => obtain ⟨h1, h2, _⟩ := mt_some hm; exact ⟨h1, h2⟩
theorem Inv.makes {st : St} (h : Inv st) (x : T.Nd) (hes : x.es = []) (hdt : x.data.size ≤ 2000000) : Inv (make st x).1 := by
  unfold make
  split
  · rename_i h1
    exact (h.more (x.as (st.last + 1)) rfl (terr_dev h1) hes hdt).taken _ _ _
  · exact h
theorem Inv.kills {st : St} (h : Inv st) (k : Int) : Inv (kill st k).1 := by
  unfold kill
  split
  · rename_i h1
    exact (h.less k h1.2).taken _ _ _
  · exact h
theorem Inv.fills {st : St} (h : Inv st) (k : Int) (x : ByteArray) (hx : x.size ≤ 2000000) : Inv (fill st k x).1 := by
  unfold fill
  split
  · rename_i h1
    split
    · obtain ⟨y, hy⟩ := Option.isSome_iff_exists.1 h1
      obtain ⟨hm, hn⟩ := get_some hy
      have hf : filled st k x = { y with data := x } := by unfold filled; rw [gets_some hy]
      rw [hf]
      exact (h.other y { y with data := x } (by show get st.n y.no = some y; rw [hn]; exact hy) rfl rfl rfl (h.plain y hm) (h.names y hm) (h.few y hm) hx).taken _ _ _
    · exact h
  · exact h
end Go.Proofs.YtenopnfclbegbaaGreat.G
/-
  Items keep what holds of every world.
-/
namespace Go.Proofs.YtenopnfclbegbaaGreat.G

/-- what holds of a world that has grown -/
structure Grown (st : St) : Prop where
  inv : Inv st
  one : 1 ≤ st.last
  ents : ∀ p ∈ st.n, (p.es.length : Int) ≤ st.last
  ups : ∀ p ∈ st.n, 0 ≤ p.up ∧ p.up ≤ st.last
theorem grown_new (b c : Int) : Grown (begin_ bare 1 b c) :=
  ⟨inv_new b c, by show (1 : Int) ≤ 1; decide, fun p hp => by obtain rfl := List.mem_singleton.1 hp; show (0 : Int) ≤ 1; decide, fun p hp => by obtain rfl := List.mem_singleton.1 hp; show (0 : Int) ≤ 1 ∧ (1 : Int) ≤ 1; decide⟩
theorem mem_put {ls : List E.Ent} {y x : E.Ent} (h : x ∈ E.put ls y) : x = y ∨ x ∈ ls := by
  unfold E.put at h
  rcases List.mem_append.1 h with h | h
  · rcases List.mem_append.1 h with h | h
    · exact .inr (List.mem_filter.1 h).1
    · exact .inl (List.mem_singleton.1 h)
  · exact .inr (List.mem_filter.1 h).1
theorem lo_hi (ls : List E.Ent) (n : List UInt8) : (E.lo ls n).length + (E.hi ls n).length ≤ ls.length := by
  induction ls with
  | nil => exact Nat.le_refl _
  | cons x r ih =>
    unfold E.lo E.hi at ih ⊢
    rw [List.filter_cons, List.filter_cons]
    by_cases h1 : x.name < n
    · have h2 := E.lt_asymm h1
      simp only [h1, h2, decide_true, decide_false, if_true, List.length_cons]
      simp only [Bool.false_eq_true, if_false]
      omega
    · simp only [h1, decide_false, Bool.false_eq_true, if_false]
      split <;> simp only [List.length_cons] <;> omega
theorem put_len (ls : List E.Ent) (y : E.Ent) : (E.put ls y).length ≤ ls.length + 1 := by
  have := lo_hi ls y.name
  unfold E.put
  rw [List.length_append, List.length_append]
  show (E.lo ls y.name).length + 1 + _ ≤ _
  omega
theorem make_last (st : St) (x : T.Nd) : (make st x).1.last = st.last + (if (make st x).2.2 = 0 then 1 else 0) := by
  unfold make
  split
  · rfl
  · rename_i h
    dsimp only
    omega
theorem make_mem {st : St} {x p : T.Nd} (h : p ∈ (make st x).1.n) : p ∈ st.n ∨ p = x.as (st.last + 1) := by
  unfold make at h
  split at h
  · rcases List.mem_append.1 h with h | h
    · exact .inl h
    · exact .inr (List.mem_singleton.1 h)
  · exact .inl h
theorem mount_last (st : St) (k b c : Int) : st.last ≤ (mount st k b c).1.last ∧ (mount st k b c).1.last ≤ st.last + 1 := by
  unfold mount
  repeat' split
  all_goals first
    | exact ⟨Int.le_refl _, by show st.last ≤ st.last + 1; omega⟩
    | exact ⟨by show st.last ≤ st.last + 1; omega, Int.le_refl _⟩
theorem mount_mem {st : St} {k b c : Int} {p : T.Nd} (h : p ∈ (mount st k b c).1.n) : p ∈ st.n ∨ (p.es = [] ∧ p.up = st.last + 1 ∧ (mount st k b c).1.last = st.last + 1) := by
  unfold mount at h ⊢
  repeat' split at h
  all_goals first
    | exact .inl h
    | (rcases List.mem_append.1 h with h | h
       · exact .inl h
       · obtain rfl := List.mem_singleton.1 h
         refine .inr ⟨rfl, rfl, ?_⟩
         simp only [*, if_true, if_false]
         rfl)
theorem check_ok {l : List UInt8} (h : V.M.check l = 0) : 1 ≤ l.length ∧ l.length ≤ 255 := by
  unfold V.M.check at h
  split at h
  · cases h
  · rename_i h1
    split at h
    · cases h
    · rename_i h2
      refine ⟨?_, by omega⟩
      cases l with
      | nil => exact absurd (.inl rfl) h1
      | cons x r => simp
theorem Grown.grows {st : St} (h : Grown st) (i : It) (hd : i.data.size ≤ 2000000) (hlast : st.last < 1000) : Grown (growSt st i) ∧ st.last ≤ (growSt st i).last ∧ (growSt st i).last ≤ st.last + 1 := by
  obtain ⟨hI, h1, hE, hU⟩ := h
  by_cases h4 : i.kind = 4
  · rw [grow_four h4]
    have hm := mount_last st (place st.last i.dir) i.n i.n
    refine ⟨⟨hI.mounted _ _ _, by omega, fun p hp => ?_, fun p hp => ?_⟩, hm⟩
    · rcases mount_mem hp with hp | hp
      · have := hE p hp; omega
      · rw [hp.1]; show (0 : Int) ≤ _; omega
    · rcases mount_mem hp with hp | hp
      · have := hU p hp; omega
      · omega
  · by_cases hv : vain (gets st.n (place st.last i.dir)) i
    · rw [grow_vain h4 hv]
      exact ⟨⟨hI, h1, hE, hU⟩, by omega, by omega⟩
    · rw [grow_node h4 hv]
      have hpr := place_range (dir := i.dir) h1
      generalize place st.last i.dir = pl at *
      have hk : (gets st.n pl).kind = 1 := by
        by_cases e : (gets st.n pl).kind = 1
        · exact e
        · exact absurd (.inl e) hv
      have hc : V.M.check i.name = 0 := by
        by_cases e : V.M.check i.name = 0
        · exact e
        · exact absurd (.inr (.inr (.inr (.inl e)))) hv
      obtain ⟨d, hd'⟩ : ∃ d, get st.n pl = some d := by
        cases e : get st.n pl with
        | none => rw [gets_none e] at hk; cases hk
        | some d => exact ⟨d, rfl⟩
      rw [gets_some hd'] at hk ⊢
      obtain ⟨hdm, hdn⟩ := get_some hd'
      have hmk := hI.makes (node d i pl) rfl (by
        unfold node
        dsimp only
        split
        · show (0 : Nat) ≤ _; decide
        · exact hd)
      have hml := make_last st (node d i pl)
      have hmm := @make_mem st (node d i pl)
      have hmg := make_get (x := node d i pl) hd'
      have hed := hE d hdm
      generalize make st (node d i pl) = r at *
      obtain ⟨st', rx, ry⟩ := r
      dsimp only at *
      have hel : ∀ p ∈ st'.n, (p.es.length : Int) ≤ st.last := fun p hp => by
        rcases hmm hp with hp | rfl
        · exact hE p hp
        · show ((0 : Nat) : Int) ≤ _; omega
      have hul : ∀ p ∈ st'.n, 0 ≤ p.up ∧ p.up ≤ st.last := fun p hp => by
        rcases hmm hp with hp | rfl
        · exact hU p hp
        · show 0 ≤ (if i.kind = 1 then pl else 0) ∧ (if i.kind = 1 then pl else 0) ≤ st.last
          split <;> omega
      have hdu := hU d hdm
      by_cases hy : ry = 0
      · rw [named_ok hy]
        dsimp only
        rw [if_pos hy] at hml
        have hpl := put_len d.es ⟨i.name, rx⟩
        have hnm := hI.names d hdm
        refine ⟨⟨hmk.other d { d with es := E.put d.es ⟨i.name, rx⟩ } (by show get st'.n d.no = some d; rw [hdn]; exact hmg) rfl rfl rfl (fun e => absurd hk e) (fun e he => ?_) (by show (E.put d.es _).length ≤ _; omega) (hI.data d hdm), by show 1 ≤ st'.last; omega, fun p hp => ?_, fun p hp => ?_⟩, by omega, by omega⟩
        · rcases mem_put he with rfl | he
          · exact check_ok hc
          · exact hnm e he
        · rcases mem_setN hp with ⟨rfl, _⟩ | hp
          · show ((E.put d.es _).length : Int) ≤ st'.last
            omega
          · have := hel p hp
            show _ ≤ st'.last
            omega
        · rcases mem_setN hp with ⟨rfl, _⟩ | hp
          · show 0 ≤ d.up ∧ d.up ≤ st'.last
            omega
          · have := hul p hp
            show _ ∧ _ ≤ st'.last
            omega
      · rw [named_err hy]
        rw [if_neg hy] at hml
        dsimp only
        exact ⟨⟨hmk, by omega, fun p hp => by have := hel p hp; omega, fun p hp => by have := hul p hp; omega⟩, by omega, by omega⟩
end Go.Proofs.YtenopnfclbegbaaGreat.G
/-
  The law's few and Grow.
-/
namespace Go.Proofs.YtenopnfclbegbaaGreat.G
open Go.RowKit Go.Shelf
attribute [local go_sem] Oper.semAt_some

/-- the eight cells of an item at a place -/
def ItAt (g o : Nat) (i : It) (w : World) : Prop := w.cell? ⟨g, o, none⟩ = some (.int .i64 i.dir) ∧ w.cell? ⟨g, o + 1, none⟩ = some (.string ⟨i.name.toArray⟩) ∧ w.cell? ⟨g, o + 2, none⟩ = some (.int .i64 i.kind) ∧ w.cell? ⟨g, o + 3, none⟩ = some (.int .i64 i.mode) ∧
  w.cell? ⟨g, o + 4, none⟩ = some (.int .i64 i.uid) ∧ w.cell? ⟨g, o + 5, none⟩ = some (.int .i64 i.gid) ∧ w.cell? ⟨g, o + 6, none⟩ = some (.string i.data) ∧ w.cell? ⟨g, o + 7, none⟩ = some (.int .i64 i.n)
/-- who reads this slice sees these items -/
def ItSees (v : Value) (ls : List It) (w : World) : Prop :=
  ∃ oa cap, v = .slice oa ls.length cap ∧ (ls.length ≤ cap ∧ cap ≤ maxLen) ∧ ∀ k x, ls[k]? = some x → ∃ g o, oa = some ⟨g, o, none⟩ ∧ ItAt g (o + k * 8) x w
theorem ItAt.lt {g o : Nat} {i : It} {w : World} (h : ItAt g o i w) : g < w.heap.size := World.block_lt_of_cell? _ _ h.1
theorem ItAt.below {g o m : Nat} {i : It} {w w' : World} (h : ItAt g o i w) (hb : Below m w w') (hg : g < m) : ItAt g o i w' := by
  obtain ⟨c0, c1, c2, c3, c4, c5, c6, c7⟩ := h
  refine ⟨?_, ?_, ?_, ?_, ?_, ?_, ?_, ?_⟩ <;> rw [hb.cell (by exact hg)] <;> assumption
theorem ItSees.below {v : Value} {ls : List It} {w w' : World} (h : ItSees v ls w) (hb : Below w.heap.size w w') : ItSees v ls w' := by
  obtain ⟨oa, cap, rfl, hm, hc⟩ := h
  refine ⟨oa, cap, rfl, hm, fun k x hk => ?_⟩
  obtain ⟨g, o, e, h0⟩ := hc k x hk
  exact ⟨g, o, e, h0.below hb h0.lt⟩
theorem itSees_none (oa : Option Addr) (c : Nat) (hc : c ≤ maxLen) (w : World) : ItSees (.slice oa 0 c) [] w := ⟨oa, c, rfl, ⟨Nat.zero_le _, hc⟩, fun k x h => by simp at h⟩
def short (i : It) : Bool := decide (i.name.length ≤ 300) && decide (i.data.size ≤ 2000)
def few (ls : List It) : Bool := ls.all short && decide (ls.length ≤ 40)
theorem few_iff {ls : List It} : few ls = true ↔ (∀ i ∈ ls, i.name.length ≤ 300 ∧ i.data.size ≤ 2000) ∧ ls.length ≤ 40 := by
  unfold few short
  simp [List.all_eq_true]
theorem size_list (l : List UInt8) : (⟨l.toArray⟩ : ByteArray).size = l.length := by show l.toArray.size = _; simp
set_option maxRecDepth 100000 in
set_option maxHeartbeats 4000000 in
theorem few_any {v : Value} {ls : List It} {w : World} (hS : ItSees v ls w) (hl : ls.length ≤ 9223372036854775807) :
    Calls Tryz.prog 19 #[v] w fun e w' => e = .returned (.bool (few ls)) ∧ w = w' := by
  obtain ⟨oa, cap, rfl, _, hcells⟩ := hS
  have HC := Lib.hid hcells
  clear hcells
  have hall : few ls = (ls.all short && decide (ls.length ≤ 40)) := rfl
  have HA := Lib.hid hall
  clear hall
  generalize few ls = z at *
  go_enter Tryz.func19, Tryz.ntmps19
  go_wp2
  go_loopw [3] (fun i wr => ∃ k : Nat, k ≤ ls.length ∧ i = .int .i64 k ∧ (∀ y ∈ ls.take k, short y = true) ∧ wr = w) (fun i _ => ls.length - (RowKit.intOf i).toNat)
  case atStart => exact ⟨0, Nat.zero_le _, rfl, fun y hy => by simp at hy, rfl⟩
  case round =>
    obtain ⟨k, hk, rfl, hno, rfl⟩ := hrel
    have HB := Lib.hid hno
    clear hno
    by_cases hlt : k < ls.length
    · obtain ⟨x, hx⟩ : ∃ x, ls[k]? = some x := ⟨_, List.getElem?_eq_getElem hlt⟩
      obtain ⟨g, o, rfl, c0, c1, c2, c3, c4, c5, c6, c7⟩ := HC.out k x hx
      have HX := Lib.hid hx
      clear hx
      have hs1 := size_list x.name
      have hlast : Hid (short x = false → z = false) := Lib.hid fun e => by
        rw [HA.out, List.all_eq_false.2 ⟨x, List.mem_of_getElem? HX.out, by rw [e]; simp⟩]; rfl
      have hstep : Hid (short x = true → ∀ y ∈ ls.take (k + 1), short y = true) := Lib.hid fun e y hy => by
        rw [List.take_add_one, HX.out] at hy
        rcases List.mem_append.1 hy with hy | hy
        · exact HB.out y hy
        · simp at hy; subst hy; exact e
      have hsx : short x = (decide (x.name.length ≤ 300) && decide (x.data.size ≤ 2000)) := rfl
      have HSX := Lib.hid hsx
      clear hsx
      generalize short x = sx at *
      by_cases h1 : x.name.length ≤ 300
      · have h1' : ¬ (300 : Int) < x.name.length := by omega
        by_cases h2 : x.data.size ≤ 2000
        · have h2' : ¬ (2000 : Int) < x.data.size := by omega
          have hst := Lib.hid (hstep.out (by rw [HSX.out]; simp [h1, h2]))
          clear hstep hlast
          go_wp2
          go_roundw
          case rel => exact ⟨k + 1, by omega, by go_num, hst.out, by first | rfl | trivial⟩
          case measure => simp [RowKit.intOf]; omega
        · have h2' : (2000 : Int) < x.data.size := by omega
          obtain rfl := hlast.out (by rw [HSX.out]; simp [h2])
          clear hstep hlast
          go_wp2
          go_ret
          exact ⟨rfl, by first | rfl | trivial⟩
      · have h1' : (300 : Int) < x.name.length := by omega
        obtain rfl := hlast.out (by rw [HSX.out]; simp [h1])
        clear hstep hlast
        go_wp2
        go_ret
        exact ⟨rfl, by first | rfl | trivial⟩
    · have hz : z = decide (ls.length ≤ 40) := by
        rw [HA.out, List.all_eq_true.2 fun y hy => HB.out y (by rw [List.take_of_length_le (by omega)]; exact hy)]; rfl
      have HZ := Lib.hid hz
      clear hz
      by_cases h40 : ls.length ≤ 40
      · obtain rfl : z = true := by rw [HZ.out]; simpa using h40
        have h40' : (ls.length : Int) ≤ 40 := by omega
        go_wp2
        go_ret
        first | exact ⟨rfl, by first | rfl | trivial⟩ | (refine ⟨?_, by first | rfl | trivial⟩; simp [h40'])
      · obtain rfl : z = false := by rw [HZ.out]; simpa using h40
        have h40' : ¬ (ls.length : Int) ≤ 40 := by omega
        go_wp2
        go_ret
        first | exact ⟨rfl, by first | rfl | trivial⟩ | (refine ⟨?_, by first | rfl | trivial⟩; simp [h40'])
/-- all items -/
def growAll (st : St) (ls : List It) : St := ls.foldl growSt st
theorem growAll_take {st : St} {ls : List It} {k : Nat} {x : It} (h : ls[k]? = some x) : growAll st (ls.take (k + 1)) = growSt (growAll st (ls.take k)) x := by
  unfold growAll
  rw [List.take_add_one, h, List.foldl_append]; rfl
theorem grown_all {st : St} (h : Grown st) : ∀ (ls : List It), (∀ i ∈ ls, i.data.size ≤ 2000) → st.last + ls.length < 1000 → Grown (growAll st ls) ∧ st.last ≤ (growAll st ls).last ∧ (growAll st ls).last ≤ st.last + ls.length
  | [], _, _ => ⟨h, Int.le_refl _, by show st.last ≤ st.last + 0; omega⟩
  | i :: r, hd, hl => by
    have hl' : st.last + ((r.length + 1 : Nat) : Int) < 1000 := hl
    obtain ⟨h1, h2, h3⟩ := h.grows i (by have := hd i (List.mem_cons_self ..); omega) (by omega)
    obtain ⟨h4, h5, h6⟩ := grown_all h1 r (fun j hj => hd j (List.mem_cons_of_mem _ hj)) (by omega)
    refine ⟨h4, ?_, ?_⟩
    · show st.last ≤ (growAll (growSt st i) r).last; omega
    · show (growAll (growSt st i) r).last ≤ st.last + ((r.length + 1 : Nat) : Int); omega
section
variable {ex : Ext} {B X A M F : Nat} {st : St} {w w' : World}
theorem grow_any (hG : Grown st) (h : Both ex B X A M F st w) (i : It) (hnm : i.name.length ≤ 300) (hdt : i.data.size ≤ 2000) (hlast : st.last < 1000) (hB : B ≤ w.heap.size) :
    Calls Tryz.prog 23 #[.pointer (some ⟨X, 0, none⟩), .pointer (some ⟨F, 0, none⟩), i.v] w fun e w' => e = .returned (.bool true) ∧ Both ex B X A M F (growSt st i) w' ∧ Below B w w' := by
  obtain ⟨mv, nv, dv, hW, hF⟩ := h
  by_cases h4 : i.kind = 4
  · exact grow_mount hG.inv hW hF i h4 hG.one hlast hB
  · exact grow_other hG.inv hW hF i h4 hnm hdt hG.one hlast hB fun p hp => by have := hG.ents p hp; omega
end
set_option maxRecDepth 100000 in
set_option maxHeartbeats 4000000 in
theorem Grow_any (b c : Int) (hlim : limits b c = true) {v : Value} {ls : List It} {w : World} (hS : ItSees v ls w) (hfew : few ls = true) :
    Calls Tryz.prog 8 #[.int .i64 b, .int .i64 c, v] w fun e w' =>
    ∃ X A M F, e = .returned (.tuple #[.pointer (some ⟨X, 0, none⟩), .pointer (some ⟨F, 0, none⟩), .bool true]) ∧ Both ex0 w.heap.size X A M F (growAll (begin_ bare 1 b c) ls) w' ∧ Below w.heap.size w w' := by
  obtain ⟨hf1, hf2⟩ := few_iff.1 hfew
  obtain ⟨oa, cap, rfl, _, hcells⟩ := hS
  have cn := New_yes b c hlim w
  have cr := fun W => refNew_yes b c hlim W
  have HF1 := Lib.hid hf1
  have HC := Lib.hid hcells
  clear hfew hf1 hcells
  have HST : Hid ((begin_ bare 1 b c).last = 1) := Lib.hid rfl
  have hgr := grown_new b c
  generalize begin_ bare 1 b c = st0 at *
  have HG := Lib.hid hgr
  clear hgr
  go_enter Tryz.func8, Tryz.ntmps8
  go_upto_region 3 with (first
    | (go_at_call 21; refine cn.mono ?_; rintro e w1 ⟨⟨X, A, M, mv, rfl, hW1⟩, hb1⟩; have cr1 := cr w1)
    | (go_at_call 22; refine cr1.mono ?_; rintro e w2 ⟨⟨F, nv, dv, rfl, hF2⟩, hb2⟩))
  have hF2' : Fs ex0 w.heap.size F nv dv st0 w2 := ⟨Nat.le_trans hb1.size hF2.bf, hF2.head, by
    obtain ⟨l, h1, h2, h3⟩ := hF2.nodes
    exact ⟨l, h1, h2.mono hb1.size, fun p hp => (h3 p hp).mono hb1.size⟩, by
    have hd := hF2.devs
    refine ⟨hd.1, hd.2.imp id ?_⟩
    rintro ⟨g, cap, cur, h1, h2, h3⟩
    exact ⟨g, cap, cur, h1, Nat.le_trans hb1.size h2, h3⟩⟩
  have x2 := hF2.facts.2.2.1
  rw [HST.out] at x2
  have hBoth : Both ex0 w.heap.size X A M F st0 w2 := ⟨mv, nv, dv, hW1.below hb2, hF2'⟩
  have hbb := below_two hb1 hb2
  clear cn cr cr1 hW1 hF2 hF2' hb1 hb2
  go_wp2
  have HBO := Lib.hid hBoth
  have HBB := Lib.hid hbb
  clear hBoth hbb x2
  go_loopw [12] (fun i wr => ∃ k : Nat, k ≤ ls.length ∧ i = .int .i64 k ∧ Both ex0 w.heap.size X A M F (growAll st0 (ls.take k)) wr ∧ Below w.heap.size w wr) (fun i _ => ls.length - (RowKit.intOf i).toNat)
  case atStart => exact ⟨0, Nat.zero_le _, rfl, HBO.out, HBB.out⟩
  case round =>
    obtain ⟨k, hk, rfl, hbo, hb⟩ := hrel
    by_cases hlt : k < ls.length
    · obtain ⟨x, hx⟩ : ∃ x, ls[k]? = some x := ⟨_, List.getElem?_eq_getElem hlt⟩
      obtain ⟨g, o, rfl, hat⟩ := HC.out k x hx
      obtain ⟨c0, c1, c2, c3, c4, c5, c6, c7⟩ := hat.below hb hat.lt
      have HT := Lib.hid (growAll_take (st := st0) hx)
      obtain ⟨hn1, hn2⟩ := HF1.out x (List.mem_of_getElem? hx)
      have hlt' : ((ls.take k).length : Int) ≤ 40 := by rw [List.length_take]; omega
      obtain ⟨hG, hg1, hg2⟩ := grown_all HG.out (ls.take k) (fun i hi => (HF1.out i (List.mem_of_mem_take hi)).2) (by rw [HST.out]; omega)
      rw [HST.out] at hg2
      have cg := grow_any hG hbo x hn1 hn2 (by omega) hb.size
      have HT2 := HT.out
      clear hx hat hG hg1 hg2 HT
      generalize growAll st0 (ls.take k) = stk at *
      have HT := Lib.hid HT2
      clear HT2 hbo
      dsimp only [It.v] at cg
      have HB := Lib.hid hb
      go_wp2_with (go_at_call 23; refine cg.mono ?_; rintro e w3 ⟨rfl, hbo3, hb3⟩)
      go_roundw
      case rel => exact ⟨k + 1, by omega, by go_num, by rw [HT.out]; exact hbo3, HB.out.trans hb3⟩
      case measure => simp [RowKit.intOf]; omega
    · rw [List.take_of_length_le (by omega)] at hbo
      have HO := Lib.hid hbo
      clear hbo
      go_wp2
      refine bodyPost_ret (by simp [results, Tryz.results8]; rfl) rfl ?_
      exact ⟨X, A, M, F, rfl, HO.out, hb⟩
end Go.Proofs.YtenopnfclbegbaaGreat.G
