/-
  The reference's gathering of keys and the program's are one; what the reference's Parse does.
-/
import Derived.Test.YtjdccfegmllphaaGreatDoorIrgrp
import Derived.Test.YtjdccfegmllphaaGreatDoorPrdec
import Derived.Test.YtjdccfegmllphaaGreatDoorDtell
namespace Go.Proofs.YtjdccfegmllphaaGreatDoor.I
open Go.RowKit Go.Shelf

theorem kd_ne : kDate ≠ kPath := by decide
theorem tak_path_is (r : Rec) (l : List UInt8) : (tak r l).path = (if r.pf then r.path else (hit1 kPath l).getD r.path) ∧ (tak r l).pf = (r.pf || (hit1 kPath l).isSome) := by
  unfold tak hit1 fillP fillD
  cases hc : (Lib.cut l [61]).2.2 with
  | false => simp
  | true =>
    by_cases hp : bare0 (Lib.cut l [61]).1 = kPath
    · cases hf : r.pf <;> simp [hp, hf]
    · by_cases hd : bare0 (Lib.cut l [61]).1 = kDate
      · have := kd_ne
        cases hf : r.pf <;> cases hg : r.df <;> simp [hd, hf, this]
      · cases hf : r.pf <;> simp [hp, hd, hf]
theorem tak_date_is (r : Rec) (l : List UInt8) : (tak r l).date = (if r.df then r.date else (hit1 kDate l).getD r.date) ∧ (tak r l).df = (r.df || (hit1 kDate l).isSome) := by
  unfold tak hit1 fillP fillD
  cases hc : (Lib.cut l [61]).2.2 with
  | false => simp
  | true =>
    by_cases hp : bare0 (Lib.cut l [61]).1 = kPath
    · have : ¬ kPath = kDate := fun e => kd_ne e.symm
      cases hf : r.pf <;> cases hg : r.df <;> simp [hp, hg, this]
    · by_cases hd : bare0 (Lib.cut l [61]).1 = kDate
      · have := kd_ne
        cases hg : r.df <;> simp [hd, hg, this]
      · cases hg : r.df <;> simp [hp, hd, hg]
theorem fold_path : ∀ (out : List (List UInt8)) (r : Rec), (out.foldl tak r).path = if r.pf then r.path else (value kPath out).getD r.path
  | [], r => by simp [value]
  | l :: out, r => by
    have h := tak_path_is r l
    rw [List.foldl_cons, fold_path out, h.1, h.2]
    cases hf : r.pf with
    | true => simp
    | false =>
      cases hh : hit1 kPath l with
      | none => rw [value_miss _ hh]; simp
      | some v => rw [value_hit _ hh]; simp
theorem fold_date : ∀ (out : List (List UInt8)) (r : Rec), (out.foldl tak r).date = if r.df then r.date else (value kDate out).getD r.date
  | [], r => by simp [value]
  | l :: out, r => by
    have h := tak_date_is r l
    rw [List.foldl_cons, fold_date out, h.1, h.2]
    cases hf : r.df with
    | true => simp
    | false =>
      cases hh : hit1 kDate l with
      | none => rw [value_miss _ hh]; simp
      | some v => rw [value_hit _ hh]; simp
theorem run_grp : ∀ (ts out : List (List UInt8)), run true (out.foldl tak r0) (ts.filter ok) = (grp true out ts).1.foldl tak r0
  | [], out => rfl
  | t :: ts, out => by
    cases hk : ok t with
    | false => rw [List.filter_cons, if_neg (by rw [hk]; simp), grp_skip _ hk]; exact run_grp ts out
    | true =>
      rw [List.filter_cons, if_pos hk]
      cases hh : Lib.hasPrefix t [91] with
      | true => rw [run_end _ hh, grp_end _ hk hh]
      | false =>
        rw [run_take _ hh, grp_more _ hk hh, ← run_grp ts (out ++ [t]), List.foldl_append]; rfl
theorem run_grp0 : ∀ ts : List (List UInt8), run false r0 (ts.filter ok) = (grp false [] ts).1.foldl tak r0 ∧ ((grp false [] ts).2 = false → (grp false [] ts).1 = [])
  | [] => ⟨rfl, fun _ => rfl⟩
  | t :: ts => by
    cases hk : ok t with
    | false => rw [List.filter_cons, if_neg (by rw [hk]; simp), grp_skip _ hk]; exact run_grp0 ts
    | true =>
      rw [List.filter_cons, if_pos hk]
      by_cases hh : t = head
      · subst hh
        rw [run_head, grp_begin]
        refine ⟨run_grp ts [], fun h => ?_⟩
        have : ∀ (ts out : List (List UInt8)), (grp true out ts).2 = true := by
          intro ts
          induction ts with
          | nil => intro out; rfl
          | cons t ts ih =>
            intro out
            cases hk : ok t with
            | false => rw [grp_skip _ hk]; exact ih out
            | true =>
              cases hh : Lib.hasPrefix t [91] with
              | true => rw [grp_end _ hk hh]
              | false => rw [grp_more _ hk hh]; exact ih _
        rw [this] at h; cases h
      · rw [run_other _ hh, grp_none _ hk hh]
        exact ⟨rfl, fun _ => rfl⟩
structure Same (s : List UInt8) (G : List (List UInt8) × Bool) : Prop where
  path : (value kPath G.1).getD [] = (rec_ s).path
  date : (value kDate G.1).getD [] = (rec_ s).date
  none : G.2 = false → value kPath G.1 = none
theorem same (s : List UInt8) : Same s (grp false [] ((lines s).map bare)) := by
  have h := run_grp0 ((lines s).map bare)
  have e : rec_ s = (grp false [] ((lines s).map bare)).1.foldl tak r0 := h.1
  refine ⟨?_, ?_, fun hf => ?_⟩
  · rw [e, fold_path]; rfl
  · rw [e, fold_date]; rfl
  · rw [h.2 hf]; rfl
theorem pse_none {s : List UInt8} {G : List (List UInt8) × Bool} (h : Same s G) (hn : value kPath G.1 = none) : pse s = ([], 0, 2) := by
  unfold pse
  rw [← h.path, hn]
  rfl
theorem grp_in : ∀ (ts out : List (List UInt8)) (b : Bool) (p : List UInt8), p ∈ (grp b out ts).1 → p ∈ out ∨ p ∈ ts
  | [], out, b, p, h => .inl h
  | t :: ts, out, b, p, h => by
    rw [grp] at h
    split at h
    · rcases grp_in ts out b p h with h | h
      · exact .inl h
      · exact .inr (by simp [h])
    · split at h
      · cases h
      · split at h
        · exact .inl h
        · rcases grp_in ts _ true p h with h | h
          · split at h
            · rcases List.mem_append.1 h with h | h
              · exact .inl h
              · exact .inr (by simp at h; simp [h])
            · exact .inl h
          · exact .inr (by simp [h])
theorem grp_len : ∀ (ts out : List (List UInt8)) (b : Bool), (grp b out ts).1.length ≤ out.length + ts.length
  | [], out, b => by simp [grp]
  | t :: ts, out, b => by
    rw [grp]
    split
    · have := grp_len ts out b; simp; omega
    · split
      · simp
      · split
        · simp
        · have := grp_len ts (if b = true then out ++ [t] else out) true
          split at this <;> rename_i hb <;> simp [hb] at this ⊢ <;> omega

theorem refDec_some {l p : List UInt8} (hl : l.length ≤ 10000) (h : Q.M.dec l = some p) (w : World) : Calls Tryz.prog 22 #[.string ⟨l.toArray⟩] w fun e w' => e = .returned (.tuple #[.string ⟨p.toArray⟩, .int .i64 0]) ∧ Below w.heap.size w w' :=
  (Q.refDecode_any ⟨l.toArray⟩ (by rw [size_l]; exact hl) w).mono fun e w' ⟨he, hw⟩ => ⟨by rw [show (⟨l.toArray⟩ : ByteArray).data.toList = l from rfl, h] at he; exact he, hw⟩
theorem refDec_none {l : List UInt8} (hl : l.length ≤ 10000) (h : Q.M.dec l = none) (w : World) : Calls Tryz.prog 22 #[.string ⟨l.toArray⟩] w fun e w' => e = .returned (.tuple #[.string ⟨#[]⟩, .int .i64 2]) ∧ Below w.heap.size w w' :=
  (Q.refDecode_any ⟨l.toArray⟩ (by rw [size_l]; exact hl) w).mono fun e w' ⟨he, hw⟩ => ⟨by rw [show (⟨l.toArray⟩ : ByteArray).data.toList = l from rfl, h] at he; exact he, hw⟩
theorem Reads.below {v : Value} {ps : List (List UInt8)} {w w' : World} (h : Reads v ps w) (hb : Below w.heap.size w w') : Reads v ps w' := by
  obtain ⟨oa, cap, rfl, hc⟩ := h
  refine ⟨oa, cap, rfl, fun k p hk => ?_⟩
  obtain ⟨g, rfl, hcell⟩ := hc k p hk
  exact ⟨g, rfl, (hb.cell (p := ⟨g, k, none⟩) (World.block_lt_of_cell? _ _ hcell)).trans hcell⟩

theorem nil_not' {l : List UInt8} (h : l ≠ []) : l.isEmpty = false := by cases l <;> simp_all
theorem decN_le : ∀ (k : Nat) (l p : List UInt8), Q.M.decN k l = some p → p.length ≤ l.length
  | 0, l, p, h => by cases h; simp
  | k + 1, l, p, h => by
    rw [Q.M.decN] at h
    split at h
    · cases h; simp
    · cases hf : Q.M.first l with
      | none => rw [hf] at h; cases h
      | some x =>
        have hx := Q.M.first_pos (b := x.1) (n := x.2) hf
        rw [hf] at h
        simp only [Option.bind_some] at h
        rw [Option.map_eq_some_iff] at h
        obtain ⟨q, hq, rfl⟩ := h
        have := decN_le k _ _ hq
        rw [List.length_drop] at this
        simp only [List.length_cons]
        omega
theorem dec_le {l p : List UInt8} (h : Q.M.dec l = some p) : p.length ≤ l.length := decN_le _ _ _ h
set_option maxRecDepth 100000 in
set_option maxHeartbeats 4000000 in
theorem refParse_is {s p : List UInt8} {n f : Int} (hs : s.length ≤ 5000) (h : pse s = (p, n, f)) (w : World) :
    Calls Tryz.prog 8 #[.string ⟨s.toArray⟩] w fun e w' => e = .returned (.tuple #[.string ⟨p.toArray⟩, .int .i64 n, .int .i64 f]) ∧ Below w.heap.size w w' := by
  have hS := same s
  have cg := group_any s hs w
  have hin : ∀ x ∈ (grp false [] ((lines s).map bare)).1, x.length ≤ 5000 := fun x hx => by
    rcases grp_in _ _ _ _ hx with h | h
    · cases h
    · obtain ⟨y, hy, rfl⟩ := List.mem_map.1 h
      have h1 := line_le hy
      have h2 := trim_le y edges
      unfold bare; omega
  have hlen : (grp false [] ((lines s).map bare)).1.length ≤ 5001 := by
    have h1 := grp_len ((lines s).map bare) [] false
    have h2 := lines_len s
    simp at h1; omega
  generalize grp false [] ((lines s).map bare) = G at hS cg hin hlen
  have hrl := rec_le s
  have hNone := fun hn => pse_none hS hn
  obtain ⟨L, is⟩ := G
  have hPath := hS.path
  have hDate := hS.date
  have hIs := hS.none
  dsimp only at hin hlen cg hPath hDate hIs hNone
  have cv : ∀ v w, Reads v L w → Calls Tryz.prog 21 #[v, .string ⟨#[80, 97, 116, 104]⟩] w fun e w' => ValuOut (value kPath L) e ∧ w' = w := fun v w hR => value_any v L kPath w hR hin hlen
  have cd : ∀ v w, Reads v L w → Calls Tryz.prog 21 #[v, .string ⟨#[68, 101, 108, 101, 116, 105, 111, 110, 68, 97, 116, 101]⟩] w fun e w' => ValuOut (value kDate L) e ∧ w' = w := fun v w hR => value_any v L kDate w hR hin hlen
  generalize value kPath L = VP at cv hPath hIs hNone
  generalize value kDate L = VD at cd hDate
  unfold ValuOut at cv cd
  rw [hDate] at cd
  unfold pse at h hNone
  generalize (rec_ s).date = RD at cd h hrl hNone
  generalize (rec_ s).path = RP at hPath h hrl hNone
  generalize VD.isSome = bd at cd
  clear hS hin hlen hDate
  cases VP with
  | none =>
    have e0 := (hNone rfl).symm.trans h
    simp only [Prod.mk.injEq] at e0
    obtain ⟨rfl, rfl, rfl⟩ := e0
    have cx := fun w => refDec_some (l := []) (p := []) (by decide) rfl w
    have cv' : ∀ v w, Reads v L w → Calls Tryz.prog 21 #[v, .string ⟨#[80, 97, 116, 104]⟩] w fun e w' => e = .returned (.tuple #[.string ⟨#[]⟩, .bool false]) ∧ w' = w := cv
    clear cv h hNone hIs hPath hrl
    have cv := cv'
    clear cv'
    cases is with
    | false =>
      go_enter Tryz.func8, Tryz.ntmps8
      go_wp2_with (first
        | (go_at_call 20; refine cg.mono ?_; rintro e w1 ⟨v, rfl, hT, hb1⟩; have R1 := Lib.hid hT.reads; clear hT)
        | (go_at_call 21; first | (refine (cv _ _ R1.out).mono ?_; clear cv; rintro e w2 ⟨rfl, hw2⟩; obtain rfl := hw2.symm) | (refine (cd _ _ (R1.out.below hb3)).mono ?_; rintro e w5 ⟨rfl, hw5⟩; obtain rfl := hw5.symm))
        | (go_at_call 22; refine (cx _).mono ?_; rintro e w3 ⟨rfl, hb3⟩))
      go_ret3
      exact ⟨rfl, below_two hb1 hb3⟩
    | true =>
      go_enter Tryz.func8, Tryz.ntmps8
      go_wp2_with (first
        | (go_at_call 20; refine cg.mono ?_; rintro e w1 ⟨v, rfl, hT, hb1⟩; have R1 := Lib.hid hT.reads; clear hT)
        | (go_at_call 21; first | (refine (cv _ _ R1.out).mono ?_; clear cv; rintro e w2 ⟨rfl, hw2⟩; obtain rfl := hw2.symm) | (refine (cd _ _ (R1.out.below hb3)).mono ?_; rintro e w5 ⟨rfl, hw5⟩; obtain rfl := hw5.symm))
        | (go_at_call 22; refine (cx _).mono ?_; rintro e w3 ⟨rfl, hb3⟩))
      go_ret3
      exact ⟨rfl, below_two hb1 hb3⟩
  | some vp =>
    have his : is = true := by cases is with
      | true => rfl
      | false => exact absurd (hIs rfl) (by simp)
    subst his
    have hvp : vp = RP := hPath
    subst hvp
    have cv' : ∀ v w, Reads v L w → Calls Tryz.prog 21 #[v, .string ⟨#[80, 97, 116, 104]⟩] w fun e w' => e = .returned (.tuple #[.string ⟨vp.toArray⟩, .bool true]) ∧ w' = w := cv
    clear cv hNone hIs hPath
    have cv := cv'
    clear cv'
    cases hd : Q.M.dec vp with
    | none =>
      have cx := fun w => refDec_none (by omega) hd w
      rw [hd] at h
      have e0 : (([], 0, 2) : List UInt8 × Int × Int) = (p, n, f) := h
      simp only [Prod.mk.injEq] at e0
      obtain ⟨rfl, rfl, rfl⟩ := e0
      clear h hd hrl
      go_enter Tryz.func8, Tryz.ntmps8
      go_wp2_with (first
        | (go_at_call 20; refine cg.mono ?_; rintro e w1 ⟨v, rfl, hT, hb1⟩; have R1 := Lib.hid hT.reads; clear hT)
        | (go_at_call 21; first | (refine (cv _ _ R1.out).mono ?_; clear cv; rintro e w2 ⟨rfl, hw2⟩; obtain rfl := hw2.symm) | (refine (cd _ _ (R1.out.below hb3)).mono ?_; rintro e w5 ⟨rfl, hw5⟩; obtain rfl := hw5.symm))
        | (go_at_call 22; refine (cx _).mono ?_; rintro e w3 ⟨rfl, hb3⟩))
      go_ret3
      exact ⟨rfl, below_two hb1 hb3⟩
    | some q =>
      have cx := fun w => refDec_some (by omega) hd w
      rw [hd] at h
      have hql : q.length ≤ 10000 := by have := dec_le hd; omega
      clear hd
      by_cases hq : q = []
      · subst hq
        have e0 : (([], 0, 2) : List UInt8 × Int × Int) = (p, n, f) := h
        simp only [Prod.mk.injEq] at e0
        obtain ⟨rfl, rfl, rfl⟩ := e0
        clear h hrl
        go_enter Tryz.func8, Tryz.ntmps8
        go_wp2_with (first
          | (go_at_call 20; refine cg.mono ?_; rintro e w1 ⟨v, rfl, hT, hb1⟩; have R1 := Lib.hid hT.reads; clear hT)
          | (go_at_call 21; first | (refine (cv _ _ R1.out).mono ?_; clear cv; rintro e w2 ⟨rfl, hw2⟩; obtain rfl := hw2.symm) | (refine (cd _ _ (R1.out.below hb3)).mono ?_; rintro e w5 ⟨rfl, hw5⟩; obtain rfl := hw5.symm))
          | (go_at_call 22; refine (cx _).mono ?_; rintro e w3 ⟨rfl, hb3⟩))
        go_ret3
        exact ⟨rfl, below_two hb1 hb3⟩
      have hq' := nil_not' hq
      cases h0 : has q 0 with
      | true =>
        have ch := fun w => has_zero hql h0 w
        have hvd : vd q = false := by
          unfold has at h0
          rw [vd, h0]; simp
        have e0 : (([], 0, 2) : List UInt8 × Int × Int) = (p, n, f) := by rw [← h]; simp [tell, hvd]
        simp only [Prod.mk.injEq] at e0
        obtain ⟨rfl, rfl, rfl⟩ := e0
        clear h hrl h0 hvd hq hql
        go_enter Tryz.func8, Tryz.ntmps8
        go_wp2_with (first
          | (go_at_call 20; refine cg.mono ?_; rintro e w1 ⟨v, rfl, hT, hb1⟩; have R1 := Lib.hid hT.reads; clear hT)
          | (go_at_call 21; first | (refine (cv _ _ R1.out).mono ?_; clear cv; rintro e w2 ⟨rfl, hw2⟩; obtain rfl := hw2.symm) | (refine (cd _ _ (R1.out.below hb3)).mono ?_; rintro e w5 ⟨rfl, hw5⟩; obtain rfl := hw5.symm))
          | (go_at_call 22; refine (cx _).mono ?_; rintro e w3 ⟨rfl, hb3⟩)
          | (go_at_call 13; refine (ch _).mono ?_; rintro e w4 ⟨rfl, hw4⟩; obtain rfl := hw4.symm))
        go_ret3
        exact ⟨rfl, below_two hb1 hb3⟩
      | false =>
        have ch := fun w => has_zero hql h0 w
        have hvd := vd_of hq h0
        obtain ⟨n', f', hps⟩ : ∃ n' f', ps RD = (n', f') := ⟨_, _, rfl⟩
        have cp := fun w => refParse_out (s := ⟨RD.toArray⟩) hps w
        rw [hps] at h
        by_cases hf : f' = 0
        · subst hf
          have e0 : ((q, n', 0) : List UInt8 × Int × Int) = (p, n, f) := by rw [← h]; simp [tell, hvd]
          simp only [Prod.mk.injEq] at e0
          obtain ⟨rfl, rfl, rfl⟩ := e0
          clear h hrl h0 hvd hq hql hps
          go_enter Tryz.func8, Tryz.ntmps8
          go_wp2_with (first
            | (go_at_call 20; refine cg.mono ?_; rintro e w1 ⟨v, rfl, hT, hb1⟩; have R1 := Lib.hid hT.reads; clear hT)
            | (go_at_call 21; first | (refine (cv _ _ R1.out).mono ?_; clear cv; rintro e w2 ⟨rfl, hw2⟩; obtain rfl := hw2.symm) | (refine (cd _ _ (R1.out.below hb3)).mono ?_; rintro e w5 ⟨rfl, hw5⟩; obtain rfl := hw5.symm))
            | (go_at_call 22; refine (cx _).mono ?_; rintro e w3 ⟨rfl, hb3⟩)
            | (go_at_call 13; refine (ch _).mono ?_; rintro e w4 ⟨rfl, hw4⟩; obtain rfl := hw4.symm)
            | (go_at_call 23; refine (cp _).mono ?_; rintro e w6 ⟨rfl, hb6⟩))
          go_ret3
          exact ⟨rfl, below_two (below_two hb1 hb3) hb6⟩
        · have e0 : ((q, -1, 0) : List UInt8 × Int × Int) = (p, n, f) := by rw [← h]; simp [tell, hvd, hf]
          simp only [Prod.mk.injEq] at e0
          obtain ⟨rfl, rfl, rfl⟩ := e0
          clear h hrl h0 hvd hq hql hps
          go_enter Tryz.func8, Tryz.ntmps8
          go_wp2_with (first
            | (go_at_call 20; refine cg.mono ?_; rintro e w1 ⟨v, rfl, hT, hb1⟩; have R1 := Lib.hid hT.reads; clear hT)
            | (go_at_call 21; first | (refine (cv _ _ R1.out).mono ?_; clear cv; rintro e w2 ⟨rfl, hw2⟩; obtain rfl := hw2.symm) | (refine (cd _ _ (R1.out.below hb3)).mono ?_; rintro e w5 ⟨rfl, hw5⟩; obtain rfl := hw5.symm))
            | (go_at_call 22; refine (cx _).mono ?_; rintro e w3 ⟨rfl, hb3⟩)
            | (go_at_call 13; refine (ch _).mono ?_; rintro e w4 ⟨rfl, hw4⟩; obtain rfl := hw4.symm)
            | (go_at_call 23; refine (cp _).mono ?_; rintro e w6 ⟨rfl, hb6⟩))
          go_ret3
          exact ⟨rfl, below_two (below_two hb1 hb3) hb6⟩
end Go.Proofs.YtjdccfegmllphaaGreatDoor.I
