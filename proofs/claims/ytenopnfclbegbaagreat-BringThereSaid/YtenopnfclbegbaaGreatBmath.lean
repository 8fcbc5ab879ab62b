/-
  Nodes and names that come: the mathematics.
-/
import Derived.Test.YtenopnfclbegbaaGreatPmath
namespace Go.Proofs.YtenopnfclbegbaaGreat.BR
open G

/-- a directory in which somebody may have names come and go -/
def placeE (st : St) (cu cg k : Int) (s : List UInt8) : Int :=
  if (get st.n k).isSome = false then 5 else if K.kind st k ≠ 1 then 9 else if V.M.check s ≠ 0 then V.M.check s else if P.may st cu cg k 3 = false then 6 else 0
/-- a node with other names, at an instant -/
def touched (nd : T.Nd) (es : List E.Ent) (t : Int) : T.Nd := { nd with es := es, mt := t, ct := t }
def touch (st : St) (k : Int) (es : List E.Ent) (t : Int) : St := ⟨st.last, setN st.n (touched (gets st.n k) es t), st.d⟩
/-- a new node: of a mount, somebody's, at an instant -/
def fresh (x : T.Nd) (dev cu cg t : Int) : T.Nd := { x with dev := dev, uid := cu, gid := cg, mt := t, ct := t, links := 1 }
/-- a node comes under a name: the world, the number, the error -/
def come (st : St) (cu cg t k : Int) (s : List UInt8) (x : T.Nd) : St × Int × Int :=
  if placeE st cu cg k s ≠ 0 then (st, 0, placeE st cu cg k s)
  else if E.numOf (gets st.n k).es s ≠ 0 then (st, 0, 7)
  else if (make st (fresh x (gets st.n k).dev cu cg t)).2.2 ≠ 0 then (st, 0, (make st (fresh x (gets st.n k).dev cu cg t)).2.2)
  else (touch (make st (fresh x (gets st.n k).dev cu cg t)).1 k (E.put (gets st.n k).es ⟨s, (make st (fresh x (gets st.n k).dev cu cg t)).2.1⟩) t, (make st (fresh x (gets st.n k).dev cu cg t)).2.1, 0)
theorem come_place {st : St} {cu cg t k : Int} {s : List UInt8} {x : T.Nd} (h : placeE st cu cg k s ≠ 0) : come st cu cg t k s x = (st, 0, placeE st cu cg k s) := by unfold come; rw [if_pos h]
theorem come_there {st : St} {cu cg t k : Int} {s : List UInt8} {x : T.Nd} (h : placeE st cu cg k s = 0) (h1 : E.numOf (gets st.n k).es s ≠ 0) : come st cu cg t k s x = (st, 0, 7) := by unfold come; rw [if_neg (by simp [h]), if_pos h1]
theorem come_err {st : St} {cu cg t k : Int} {s : List UInt8} {x : T.Nd} (h : placeE st cu cg k s = 0) (h1 : E.numOf (gets st.n k).es s = 0) {y : St × Int × Int} (hm : make st (fresh x (gets st.n k).dev cu cg t) = y) (he : y.2.2 ≠ 0) : come st cu cg t k s x = (st, 0, y.2.2) := by
  subst hm
  unfold come; rw [if_neg (by simp [h]), if_neg (by simp [h1]), if_pos he]
theorem come_ok {st : St} {cu cg t k : Int} {s : List UInt8} {x : T.Nd} (h : placeE st cu cg k s = 0) (h1 : E.numOf (gets st.n k).es s = 0) {y : St × Int × Int} (hm : make st (fresh x (gets st.n k).dev cu cg t) = y) (he : y.2.2 = 0) : come st cu cg t k s x = (touch y.1 k (E.put (gets st.n k).es ⟨s, y.2.1⟩) t, y.2.1, 0) := by
  subst hm
  unfold come; rw [if_neg (by simp [h]), if_neg (by simp [h1]), if_neg (by simp [he])]
theorem make_same {st : St} {x : T.Nd} (h : (make st x).2.2 ≠ 0) : (make st x).1 = st := by
  unfold make at h ⊢
  split
  · rename_i h1; rw [if_pos h1] at h; exact absurd rfl h
  · rfl
def newDir (up mode : Int) : T.Nd := ⟨0, 0, 1, mode, 0, 0, 0, 0, 0, up, ⟨#[]⟩, []⟩
def newFile (mode : Int) (data : ByteArray) : T.Nd := ⟨0, 0, 2, mode, 0, 0, 0, 0, 0, 0, data, []⟩
def newLink (text : ByteArray) : T.Nd := ⟨0, 0, 3, 511, 0, 0, 0, 0, 0, 0, text, []⟩
def modeOk (mode : Int) : Bool := decide (0 ≤ mode ∧ mode ≤ 1023)
def dirSt (st : St) (cu cg t k : Int) (s : List UInt8) (mode : Int) : St × Int × Int := if modeOk mode = false then (st, 0, 1) else come st cu cg t k s (newDir k mode)
def fileSt (st : St) (cu cg t k : Int) (s : List UInt8) (mode : Int) (data : ByteArray) : St × Int × Int :=
  if modeOk mode = false then (st, 0, 1) else if 1048576 < data.size then (st, 0, 3) else come st cu cg t k s (newFile mode data)
def badText (x : ByteArray) : Prop := x.data.toList = [] ∨ (0 : UInt8) ∈ x.data.toList
instance (x : ByteArray) : Decidable (badText x) := by unfold badText; infer_instance
def symSt (st : St) (cu cg t k : Int) (s : List UInt8) (x : ByteArray) : St × Int × Int :=
  if badText x then (st, 0, 1) else if 4096 < x.size then (st, 0, 13) else come st cu cg t k s (newLink x)
/-- a node with one name more -/
def linked (nd : T.Nd) (t : Int) : T.Nd := { nd with links := nd.links + 1, ct := t }
def relink (st : St) (no t : Int) : St := ⟨st.last, setN st.n (linked (gets st.n no) t), st.d⟩
def hardE (st : St) (cu cg no k : Int) (s : List UInt8) : Int :=
  if placeE st cu cg k s ≠ 0 then placeE st cu cg k s
  else if (get st.n no).isSome = false then 5
  else if K.kind st no = 1 then 4
  else if E.numOf (gets st.n k).es s ≠ 0 then 7
  else if (gets st.n no).dev ≠ (gets st.n k).dev then 11
  else if 1000 ≤ (gets st.n no).links then 18
  else 0
def hardSt (st : St) (cu cg t no k : Int) (s : List UInt8) : St × Int :=
  if hardE st cu cg no k s ≠ 0 then (st, hardE st cu cg no k s) else (touch (relink st no t) k (E.put (gets st.n k).es ⟨s, no⟩) t, 0)

theorem is_some {α : Type} {o : Option α} (h : ¬ o.isSome = false) : o.isSome = true := by
  cases o with
  | none => exact absurd rfl h
  | some _ => rfl
theorem place_dir {st : St} {cu cg k : Int} {s : List UInt8} (h : placeE st cu cg k s = 0) : (get st.n k).isSome = true ∧ K.kind st k = 1 ∧ V.M.check s = 0 ∧ P.may st cu cg k 3 = true := by
  unfold placeE at h
  split at h
  · cases h
  · rename_i h1
    split at h
    · cases h
    · rename_i h2
      split at h
      · rename_i h3; exact absurd h h3
      · rename_i h3
        split at h
        · cases h
        · rename_i h4
          exact ⟨is_some h1, by simpa using h2, by simpa using h3, by simpa using h4⟩

/-! no node has fewer names than none -/
def Links (st : St) : Prop := ∀ nd ∈ st.n, 0 ≤ nd.links
theorem links_new (b c : Int) : Links (begin_ bare 1 b c) := fun p hp => by obtain rfl := List.mem_singleton.1 hp; show (0 : Int) ≤ 1; decide
theorem Links.grows {st : St} (h : Links st) (hz : 0 ≤ T.Nd.zero.links) (i : It) : Links (growSt st i) := by
  have hg : ∀ k, 0 ≤ (gets st.n k).links := fun k => by
    cases e : get st.n k with
    | none => rw [gets_none e]; exact hz
    | some x => rw [gets_some e]; exact h x (get_some e).1
  by_cases h4 : i.kind = 4
  · rw [grow_four h4]
    unfold mount
    split
    · split
      · split
        · exact h
        · split
          · exact h
          · split
            · intro p hp
              rcases List.mem_append.1 hp with hp | hp
              · exact h p hp
              · obtain rfl := List.mem_singleton.1 hp; show (0 : Int) ≤ 1; decide
            · exact h
      · exact h
    · exact h
  · by_cases hv : vain (gets st.n (place st.last i.dir)) i
    · rw [grow_vain h4 hv]; exact h
    · rw [grow_node h4 hv]
      generalize place st.last i.dir = pl at *
      have hmk : Links (make st (node (gets st.n pl) i pl)).1 := fun p hp => by
        rcases make_mem hp with hp | rfl
        · exact h p hp
        · show (0 : Int) ≤ 1; decide
      have hd := hg pl
      generalize make st (node (gets st.n pl) i pl) = r at *
      unfold named
      split
      · intro p hp
        rcases mem_setN hp with ⟨rfl, _⟩ | hp
        · exact hd
        · exact hmk p hp
      · exact hmk
theorem links_all {st : St} (h : Links st) : ∀ ls : List It, Links (growAll st ls)
  | [] => h
  | i :: r => links_all (h.grows (by decide) i) r

/-! what holds of the worlds of stages 17 to 20 -/
structure Fine (m : Int) (st : St) : Prop where
  inv : Inv st
  one : 1 ≤ st.last
  last : st.last ≤ m
  ents : ∀ p ∈ st.n, (p.es.length : Int) ≤ m
  ups : ∀ p ∈ st.n, 0 ≤ p.up ∧ p.up ≤ st.last
  tree : K.Tree st
  sorts : P.Sorts st
  links : Links st
theorem Fine.mono {m m' : Int} {st : St} (h : Fine m st) (hm : m ≤ m') : Fine m' st :=
  ⟨h.inv, h.one, by have := h.last; omega, fun p hp => by have := h.ents p hp; omega, h.ups, h.tree, h.sorts, h.links⟩
theorem Fine.ranged {m : Int} {st : St} (h : Fine m st) (hm : m ≤ 1000000) : Ranged st := by
  have hl := h.last
  refine ⟨fun p hp => by have := h.ups p hp; omega, fun x hx => ?_⟩
  obtain ⟨i, hi⟩ := List.mem_iff_getElem?.1 hx
  cases i with
  | zero =>
    obtain ⟨q, hq⟩ := h.inv.top
    rw [hq] at hi
    cases hi
    exact ⟨by show (-9223372036854775808 : Int) ≤ 1; decide, by show (1 : Int) ≤ 9223372036854775807; decide⟩
  | succ i => have := h.inv.covs (i + 1) x hi (Nat.succ_pos _); omega
theorem Fine.of_grown {m : Int} {st : St} (h : Grown st) (hT : K.Tree st) (hS : P.Sorts st) (hL : Links st) (hm : st.last ≤ m) : Fine m st :=
  ⟨h.inv, h.one, hm, fun p hp => by have := h.ents p hp; omega, h.ups, hT, hS, hL⟩
/-- a node is another one of its kind -/
theorem Fine.other {m : Int} {st : St} (h : Fine m st) (x y : T.Nd) (hx : get st.n y.no = some x) (hdev : y.dev = x.dev) (hkind : y.kind = x.kind) (hup : y.up = x.up) (hdt : y.data = x.data) (hlk : 0 ≤ y.links)
    (hpl : y.kind ≠ 1 → y.es = []) (hu : E.Up y.es) (hc : ∀ e ∈ y.es, V.M.check e.name = 0) (hk : ∀ e ∈ y.es, (get st.n e.no).isSome = true) {m' : Int} (hm : m ≤ m') (hl : (y.es.length : Int) ≤ m') (hm' : m' ≤ 1000) : Fine m' ⟨st.last, setN st.n y, st.d⟩ := by
  have hxm := (get_some hx).1
  have hT := h.tree
  refine ⟨h.inv.other x y hx hdev hkind hup hpl (fun e he => check_ok (hc e he)) (by omega) (by rw [hdt]; exact h.inv.data x hxm), h.one, by have := h.last; show st.last ≤ m'; omega, fun p hp => ?_, fun p hp => ?_, ⟨fun p hp => ?_, fun p hp e he => ?_, fun p hp e he => ?_, hT.covs, fun p hp => ?_⟩, fun p hp => ?_, fun p hp => ?_⟩
  · rcases mem_setN hp with ⟨rfl, _⟩ | hp
    · exact hl
    · have := h.ents p hp; omega
  · rcases mem_setN hp with ⟨rfl, _⟩ | hp
    · rw [hup]; exact h.ups x hxm
    · exact h.ups p hp
  · rcases mem_setN hp with ⟨rfl, _⟩ | hp
    · exact hu
    · exact hT.up p hp
  · rcases mem_setN hp with ⟨rfl, _⟩ | hp
    · exact hc e he
    · exact hT.clean p hp e he
  · rcases mem_setN hp with ⟨rfl, _⟩ | hp
    · exact K.get_set (hk e he)
    · exact K.get_set (hT.kids p hp e he)
  · rcases mem_setN hp with ⟨rfl, _⟩ | hp
    · rw [hdt]; exact hT.short x hxm
    · exact hT.short p hp
  · rcases mem_setN hp with ⟨rfl, _⟩ | hp
    · rw [hkind]; exact h.sorts x hxm
    · exact h.sorts p hp
  · rcases mem_setN hp with ⟨rfl, _⟩ | hp
    · exact hlk
    · exact h.links p hp
/-- a node comes -/
theorem Fine.makes {m : Int} {st : St} (h : Fine m st) (x : T.Nd) (hes : x.es = []) (hd : x.data.size ≤ 2000) (hup : 0 ≤ x.up ∧ x.up ≤ st.last) (hkd : x.kind = 1 ∨ x.kind = 2 ∨ x.kind = 3) (hlk : 0 ≤ x.links) (hm : 0 ≤ m) : Fine (m + 1) (make st x).1 := by
  have hl := make_last st x
  have hll : st.last ≤ (make st x).1.last ∧ (make st x).1.last ≤ st.last + 1 := by rw [hl]; split <;> omega
  have hlast := h.last
  have hone := h.one
  refine ⟨h.inv.makes x hes (by omega), by omega, by omega, fun p hp => ?_, fun p hp => ?_, h.tree.makes x hes hd, fun p hp => ?_, fun p hp => ?_⟩
  · rcases make_mem hp with hp | rfl
    · have := h.ents p hp; omega
    · rw [show (x.as (st.last + 1)).es = [] from hes]; show (0 : Int) ≤ _; omega
  · rcases make_mem hp with hp | rfl
    · have := h.ups p hp; omega
    · have h1 : (x.as (st.last + 1)).up = x.up := rfl
      rw [h1]; omega
  · rcases make_mem hp with hp | rfl
    · exact h.sorts p hp
    · exact hkd
  · rcases make_mem hp with hp | rfl
    · exact h.links p hp
    · exact hlk
theorem put_mem {ls : List E.Ent} {y e : E.Ent} (h : e ∈ E.put ls y) : e = y ∨ e ∈ ls := mem_put h
/-- a directory has other names -/
theorem Fine.touch {m : Int} {st : St} (h : Fine m st) {k t : Int} {es : List E.Ent} (hs : (get st.n k).isSome = true) (hk : K.kind st k = 1) (hu : E.Up es) (hc : ∀ e ∈ es, V.M.check e.name = 0) (hkd : ∀ e ∈ es, (get st.n e.no).isSome = true) {m' : Int} (hm : m ≤ m') (hl : (es.length : Int) ≤ m') (hm' : m' ≤ 1000) : Fine m' (touch st k es t) := by
  obtain ⟨x, hx⟩ := Option.isSome_iff_exists.1 hs
  have hg := gets_some hx
  have hno := (get_some hx).2
  have hkx : x.kind = 1 := by rw [← hg]; exact hk
  unfold BR.touch
  rw [hg]
  exact h.other x (touched x es t) (by show get st.n x.no = _; rw [hno]; exact hx) rfl rfl rfl rfl (h.links x (get_some hx).1) (fun e => absurd hkx e) hu hc hkd hm hl hm'
/-- a name comes -/
theorem Fine.comes {m : Int} {st : St} (h : Fine m st) (cu cg t k : Int) (s : List UInt8) (x : T.Nd) (hes : x.es = []) (hd : x.data.size ≤ 2000) (hup : x.up = 0 ∨ x.up = k) (hkd : x.kind = 1 ∨ x.kind = 2 ∨ x.kind = 3) (hm : m ≤ 900) : Fine (m + 1) (come st cu cg t k s x).1 := by
  have hlast := h.last
  have hone := h.one
  unfold come
  split
  · exact h.mono (by omega)
  · rename_i hp
    obtain ⟨hs, hk, hc, _⟩ := place_dir (Decidable.of_not_not hp)
    have hr := K.there_range h.inv hs
    split
    · exact h.mono (by omega)
    · split
      · exact h.mono (by omega)
      · rename_i he
        have he : (make st (fresh x (gets st.n k).dev cu cg t)).2.2 = 0 := Decidable.of_not_not he
        have hmk := h.makes (fresh x (gets st.n k).dev cu cg t) hes hd (by show 0 ≤ x.up ∧ x.up ≤ st.last; omega) hkd (show (0 : Int) ≤ 1 by decide) (by omega)
        have hth := K.made_there h.inv he
        obtain ⟨d, hd'⟩ := Option.isSome_iff_exists.1 hs
        have hg' := make_get (x := fresh x (gets st.n k).dev cu cg t) hd'
        have hg := gets_some hd'
        obtain ⟨hdm, hdn⟩ := get_some hd'
        rw [hg] at hth hg' hmk he ⊢
        refine hmk.touch (by rw [hg']; rfl) (by unfold K.kind; rw [gets_some hg', ← hg]; exact hk) (E.up_put (h.tree.up d hdm) _) (fun e he => ?_) (fun e he => ?_) (Int.le_refl _) ?_ (by omega)
        · rcases mem_put he with rfl | he
          · exact hc
          · exact h.tree.clean d hdm e he
        · rcases mem_put he with rfl | he
          · exact hth
          · exact K.get_made (h.tree.kids d hdm e he)
        · have h1 := put_len d.es ⟨s, (make st (fresh x d.dev cu cg t)).2.1⟩
          have h2 := h.ents d hdm
          omega
theorem Fine.dirs {m : Int} {st : St} (h : Fine m st) (cu cg t k : Int) (s : List UInt8) (mode : Int) (hm : m ≤ 900) : Fine (m + 1) (dirSt st cu cg t k s mode).1 := by
  unfold dirSt
  split
  · exact h.mono (by omega)
  · exact h.comes cu cg t k s _ rfl (by show (0 : Nat) ≤ _; decide) (.inr rfl) (.inl rfl) hm
theorem Fine.files {m : Int} {st : St} (h : Fine m st) (cu cg t k : Int) (s : List UInt8) (mode : Int) (data : ByteArray) (hd : data.size ≤ 2000) (hm : m ≤ 900) : Fine (m + 1) (fileSt st cu cg t k s mode data).1 := by
  unfold fileSt
  split
  · exact h.mono (by omega)
  · split
    · exact h.mono (by omega)
    · exact h.comes cu cg t k s _ rfl hd (.inl rfl) (.inr (.inl rfl)) hm
theorem Fine.syms {m : Int} {st : St} (h : Fine m st) (cu cg t k : Int) (s : List UInt8) (x : ByteArray) (hd : x.size ≤ 2000) (hm : m ≤ 900) : Fine (m + 1) (symSt st cu cg t k s x).1 := by
  unfold symSt
  split
  · exact h.mono (by omega)
  · split
    · exact h.mono (by omega)
    · exact h.comes cu cg t k s _ rfl hd (.inl rfl) (.inr (.inr rfl)) hm
theorem hard_ok {st : St} {cu cg no k : Int} {s : List UInt8} (h : hardE st cu cg no k s = 0) : placeE st cu cg k s = 0 ∧ (get st.n no).isSome = true ∧ K.kind st no ≠ 1 ∧ E.numOf (gets st.n k).es s = 0 ∧ (gets st.n no).dev = (gets st.n k).dev ∧ (gets st.n no).links < 1000 := by
  unfold hardE at h
  split at h
  · rename_i h1; exact absurd h h1
  · rename_i h1
    split at h
    · cases h
    · rename_i h2
      split at h
      · cases h
      · rename_i h3
        split at h
        · cases h
        · rename_i h4
          split at h
          · cases h
          · rename_i h5
            split at h
            · cases h
            · rename_i h6
              exact ⟨Decidable.of_not_not h1, is_some h2, h3, Decidable.of_not_not h4, Decidable.of_not_not h5, by omega⟩
/-- a node that is no directory has one name more -/
theorem relinks {st : St} (h : Inv st) {no t : Int} (hs : (get st.n no).isSome = true) (hk : K.kind st no ≠ 1) : Inv (relink st no t) := by
  obtain ⟨x, hx⟩ := Option.isSome_iff_exists.1 hs
  have hxg := gets_some hx
  obtain ⟨hxm, hxn⟩ := get_some hx
  have hplain := h.plain x hxm (by rw [← hxg]; exact hk)
  unfold relink
  rw [hxg]
  refine h.other x (linked x t) (by show get st.n x.no = _; rw [hxn]; exact hx) rfl rfl rfl (fun _ => hplain) (fun e he => ?_) ?_ (h.data x hxm)
  · rw [show (linked x t).es = [] from hplain] at he; cases he
  · rw [show (linked x t).es = [] from hplain]; decide
theorem Fine.hards {m : Int} {st : St} (h : Fine m st) (cu cg t no k : Int) (s : List UInt8) (hm : m ≤ 900) : Fine (m + 1) (hardSt st cu cg t no k s).1 := by
  unfold hardSt
  split
  · exact h.mono (by omega)
  · rename_i he
    obtain ⟨hp, h2, h3, h4, h5, h6⟩ := hard_ok (Decidable.of_not_not he)
    obtain ⟨hs, hk, hc, _⟩ := place_dir hp
    obtain ⟨x, hx⟩ := Option.isSome_iff_exists.1 h2
    have hxg := gets_some hx
    obtain ⟨hxm, hxn⟩ := get_some hx
    have hkx : x.kind ≠ 1 := by rw [← hxg]; exact h3
    have hplain := h.inv.plain x hxm hkx
    have hF : Fine m (relink st no t) := by
      unfold relink
      rw [hxg]
      refine h.other x (linked x t) (by show get st.n x.no = _; rw [hxn]; exact hx) rfl rfl rfl rfl (show 0 ≤ x.links + 1 by have := h.links x hxm; omega) (fun _ => hplain) ?_ (fun e he => ?_) (fun e he => ?_) (Int.le_refl _) ?_ (by omega)
      · show E.Up x.es; rw [hplain]; exact List.Pairwise.nil
      · rw [show (linked x t).es = [] from hplain] at he; cases he
      · rw [show (linked x t).es = [] from hplain] at he; cases he
      · rw [show (linked x t).es = [] from hplain]; show (0 : Int) ≤ m; have := h.one; have := h.last; omega
    obtain ⟨d, hd'⟩ := Option.isSome_iff_exists.1 hs
    have hg := gets_some hd'
    obtain ⟨hdm, hdn⟩ := get_some hd'
    have hne : k ≠ no := fun e => by rw [e] at hk; exact h3 hk
    have hg' : get (relink st no t).n k = some d := by
      unfold relink
      rw [get_setN, hd', hxg]
      show some (if k = x.no then linked x t else d) = some d
      rw [if_neg (by rw [hxn]; exact hne)]
    rw [hg]
    refine hF.touch (by rw [hg']; rfl) (by unfold K.kind; rw [gets_some hg', ← hg]; exact hk) (E.up_put (h.tree.up d hdm) _) (fun e he => ?_) (fun e he => ?_) (show m ≤ m + 1 by omega) ?_ (by omega)
    · rcases mem_put he with rfl | he
      · exact hc
      · exact h.tree.clean d hdm e he
    · unfold relink
      rcases mem_put he with rfl | he
      · exact K.get_set h2
      · exact K.get_set (h.tree.kids d hdm e he)
    · have h1 := put_len d.es ⟨s, no⟩
      have h2 := h.ents d hdm
      omega
theorem fine_grown {b c : Int} {ls : List It} (hf : few ls = true) : Fine 100 (growAll (begin_ bare 1 b c) ls) := by
  obtain ⟨hf1, hf2⟩ := few_iff.1 hf
  have h0 : (begin_ bare 1 b c).last = 1 := rfl
  have hl1 : (begin_ bare 1 b c).last + ls.length < 1000 := by rw [h0]; omega
  obtain ⟨hG, hg1, hg2⟩ := grown_all (grown_new b c) ls (fun i hi => (hf1 i hi).2) hl1
  have hT := K.tree_all (grown_new b c) (K.tree_new b c) ls (fun i hi => (hf1 i hi).2) hl1
  exact Fine.of_grown hG hT (P.sorts_all (P.sorts_new b c) ls) (links_all (links_new b c) ls) (by rw [h0] at hg2; omega)
end Go.Proofs.YtenopnfclbegbaaGreat.BR
