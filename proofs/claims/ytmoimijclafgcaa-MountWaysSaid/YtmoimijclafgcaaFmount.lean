/-
  The reference's Mount and New.
-/
import Derived.Test.YtmoimijclafgcaaFroot
namespace Go.Proofs.Ytmoimijclafgcaa.G
open Go.RowKit Go.Shelf
attribute [local go_sem] Oper.semAt_some

section
variable {B F : Nat} {nv nv' dv dv' : Value} {st : St} {w w' : World}
set_option maxRecDepth 100000 in
set_option maxHeartbeats 8000000 in
theorem refMount_any (hI : Inv st) (h : Fs B F nv dv st w) (k b c : Int) (hB : B ≤ w.heap.size) (hlen : st.n.length < 800000) (hlast : st.last < 800000) :
    Calls Try.prog 13 #[.pointer (some ⟨F, 0, none⟩), .int .i64 k, .int .i64 b, .int .i64 c] w fun e w' =>
    e = .returned (.tuple #[.int .i64 (mount st k b c).2.1, .int .i64 (mount st k b c).2.2]) ∧ ∃ nv' dv', Fs B F nv' dv' (mount st k b c).1 w' ∧ Turn (fS F nv dv) w w' ∧ ∀ i, fS F nv' dv' i → fS F nv dv i ∨ w.heap.size ≤ i := by
  obtain ⟨r, hr⟩ : ∃ r, mount st k b c = r := ⟨_, rfl⟩
  rw [hr]
  have HR := Lib.hid hr
  have hdl := hI.mounts
  have hl0 := hI.lo
  have hgv : ∀ p ∈ st.n, p.no ≤ st.last := fun p hp => (hI.given p hp).2
  have hne : st.d ≠ [] := fun e => by
    obtain ⟨q, hq⟩ := hI.top
    rw [e] at hq; cases hq
  have c1 := refGet_any h k (by omega)
  have H := Lib.hid h
  obtain ⟨oa, cap, rfl⟩ := h.dlen
  have co := fun W (hW : Fs B F nv (.slice oa st.d.length cap) st W) => refOver_any hW k (by omega)
  have ho : refOver st.d k = over st.d k := (hI.over_raw k).symm
  rw [ho] at co
  have cr := fun W (hW : Fs B F nv (.slice oa st.d.length cap) st W) => refRoot_any hW (gets st.n k).dev (by omega)
  have cl := fun W => U.Limits_any b c W
  have cg := fun W (hW : Fs B F nv (.slice oa st.d.length cap) st W) (hBW : B ≤ W.heap.size) => refroot_any hW k b c (st.d ++ [⟨st.last + 1, k, ⟨1, 1, b, c⟩⟩]) (raw_snoc hne _) hI.rise hgv hBW (by omega) hlen hl0 hlast
  have hno : (get st.n k).isSome = false → (gets st.n k).no = 0 ∧ True := fun e => by
    rw [gets_none (by simpa using e)]; exact ⟨rfl, trivial⟩
  have hyes : (get st.n k).isSome = true → (gets st.n k).no ≠ 0 := fun e => by
    obtain ⟨y, hy⟩ := Option.isSome_iff_exists.1 e
    rw [gets_some hy]
    have := (hI.given y (get_some hy).1).1
    omega
  have hrt : (get st.n k).isSome = true → (isRoot st.d k = true ↔ rootOf st.d (gets st.n k).dev = k) := fun e => by
    obtain ⟨y, hy⟩ := Option.isSome_iff_exists.1 e
    rw [gets_some hy]
    exact hI.root_iff hy
  have hlm : limits b c = (U.btw 1 b 1073741824 && U.btw 1 c 65536) := rfl
  rw [← hlm] at cl
  have G1 := Lib.hid (@mount_none st k b c)
  have G2 := Lib.hid (@mount_kind st k b c)
  have G3 := Lib.hid (@mount_busy st k b c)
  have G4 := Lib.hid (@mount_full st k b c)
  have G5 := Lib.hid (@mount_go st k b c)
  have HNO := Lib.hid hno
  have HYES := Lib.hid hyes
  have HRT := Lib.hid hrt
  clear h hr hlen hlast hI hgv hne hno hyes hrt hlm ho hl0
  rw [HR.out] at G1 G2 G3 G4 G5
  generalize isRoot st.d k = rr at *
  generalize over st.d k = ov at *
  generalize hnd : gets st.n k = nd at *
  clear hnd
  generalize rootOf st.d nd.dev = ro at *
  generalize (get st.n k).isSome = bb at *
  obtain ⟨no, dev, kind, mode, uid, gid, mt, ct', links, up, data, es⟩ := nd
  dsimp only [T.Nd.v] at *
  go_enter Try.func13, Try.ntmps13
  go_upto_region 2 with (go_at_call 30; refine c1.mono ?_; rintro e w3 ⟨u, rfl, hO, hb3⟩; obtain ⟨ou, cu, rfl⟩ := T.own_slice hO; have D3 := T.BoxN.new ⟨no, dev, kind, mode, uid, gid, mt, ct', links, up, data, es⟩ (.slice ou es.length cu) w3)
  have hb4 : Below w.heap.size w (w3.alloc (.cells #[.int .i64 no, .int .i64 dev, .int .i64 kind, .int .i64 mode, .int .i64 uid, .int .i64 gid, .int .i64 mt, .int .i64 ct', .int .i64 links, .int .i64 up, .string data, .slice ou es.length cu] 71)) := hb3.alloc hb3.size _
  generalize w3.alloc (.cells #[.int .i64 no, .int .i64 dev, .int .i64 kind, .int .i64 mode, .int .i64 uid, .int .i64 gid, .int .i64 mt, .int .i64 ct', .int .i64 links, .int .i64 up, .string data, .slice ou es.length cu] 71) = W4 at D3 hb4 ⊢
  generalize w3.heap.size = b3 at D3 ⊢
  clear hb3 hO c1
  have H4 := H.out.below hb4
  have ht4 : Turn (fS F nv (.slice oa st.d.length cap)) w W4 := Turn.of_below hb4
  have co4 := co W4 H4
  have cr4 := cr W4 H4
  have hBW : B ≤ W4.heap.size := Nat.le_trans hB ht4.size
  have cg4 := cg W4 H4 hBW
  obtain ⟨a0, a1, a2, _⟩ := D3.facts
  dsimp only at a0 a1 a2
  have x1 := H4.facts.2.1
  have H4h := Lib.hid H4
  have ht4h := Lib.hid ht4
  clear co cr cg H4 ht4 hB hb4 D3
  cases bb with
  | false =>
    obtain rfl := G1.out rfl
    obtain ⟨e0, _⟩ := HNO.out rfl
    subst e0
    go_wp2
    go_ret2
    exact ⟨rfl, nv, _, H4h.out, ht4h.out, fun i hi => .inl hi⟩
  | true =>
    have hn0 : (no == 0) = false := by have := HYES.out rfl; simpa using this
    have hrt := HRT.out rfl
    by_cases hk1 : kind = 1
    · subst hk1
      by_cases hov : ov = k
      · subst hov
        cases rr with
        | true =>
          obtain rfl := G3.out rfl rfl (.inr rfl)
          obtain rfl : ro = ov := hrt.1 rfl
          clear hrt
          go_wp2_with (first
            | (go_at_call 38; refine co4.mono ?_; rintro e w5 ⟨rfl, rfl⟩)
            | (go_at_call 31; refine cr4.mono ?_; rintro e w5 ⟨rfl, rfl⟩))
          go_ret2
          exact ⟨rfl, nv, _, H4h.out, ht4h.out, fun i hi => .inl hi⟩
        | false =>
          have hro : (ro == ov) = false := by
            have : ¬ ro = ov := fun e => by have := hrt.2 e; cases this
            simpa using this
          clear hrt
          go_upto_region 8 with (first
            | (go_at_call 38; refine co4.mono ?_; rintro e w5 ⟨rfl, rfl⟩)
            | (go_at_call 31; refine cr4.mono ?_; rintro e w5 ⟨rfl, rfl⟩))
          by_cases h8 : 8 ≤ st.d.length
          · obtain rfl := G4.out (by trivial) (by trivial) (by trivial) (by trivial) h8
            have h8' : (8 : Int) ≤ st.d.length := by omega
            go_wp2
            go_ret2
            exact ⟨rfl, nv, _, H4h.out, ht4h.out, fun i hi => .inl hi⟩
          · have hG := G5.out (by trivial) (by trivial) (by trivial) (by trivial) h8
            have h8' : ¬ (8 : Int) ≤ st.d.length := by omega
            generalize limits b c = lm at *
            cases lm with
            | false =>
              rw [if_neg (by simp)] at hG
              subst hG
              go_wp2_with (go_at_call 39; refine (cl _).mono ?_; rintro e w9 ⟨rfl, rfl⟩)
              go_ret2
              exact ⟨rfl, nv, _, H4h.out, ht4h.out, fun i hi => .inl hi⟩
            | true =>
              rw [if_pos rfl] at hG
              subst hG
              go_wp2_with (first
                | (go_at_call 39; refine (cl _).mono ?_; rintro e w9 ⟨rfl, rfl⟩)
                | (go_at_call 40; refine cg4.mono ?_; rintro e w9 ⟨rfl, nv', dv', H9, t9, k9⟩))
              go_ret2
              exact ⟨rfl, nv', dv', H9, ht4h.out.trans t9, fun i hi => (k9 i hi).imp id fun h => by have := ht4h.out.size; omega⟩
      · obtain rfl := G3.out rfl rfl (.inl hov)
        have hov' : (ov == k) = false := by simpa using hov
        clear hrt
        go_wp2_with (go_at_call 38; refine co4.mono ?_; rintro e w5 ⟨rfl, rfl⟩)
        go_ret2
        exact ⟨rfl, nv, _, H4h.out, ht4h.out, fun i hi => .inl hi⟩
    · obtain rfl := G2.out rfl hk1
      have hk1' : (kind == 1) = false := by simpa using hk1
      clear hrt
      go_wp2
      go_ret2
      exact ⟨rfl, nv, _, H4h.out, ht4h.out, fun i hi => .inl hi⟩
end
theorem Fs.bare {B : Nat} {w : World} (hB : B ≤ w.heap.size) : Fs B w.heap.size (.slice none 0 0) (.slice none 0 0) bare (w.alloc (.cells #[.slice none 0 0, .slice none 0 0, .int .i64 0, .int .i64 0, .int .i64 0, .slice none 0 0, .bool false] 47)) :=
  ⟨hB, heap_alloc_new w _, ⟨[], rfl, T.RowOwn.nil _ _, fun p hp => by cases hp⟩, MRow.nil _ _ _⟩
set_option maxHeartbeats 4000000 in
theorem refNew_yes (b c : Int) (h : limits b c = true) (w : World) : Calls Try.prog 23 #[.int .i64 b, .int .i64 c] w fun e w' =>
    (∃ F nv dv, e = .returned (.pointer (some ⟨F, 0, none⟩)) ∧ Fs w.heap.size F nv dv (begin_ bare 1 b c) w') ∧ Below w.heap.size w w' := by
  have cl := fun W => U.Limits_any b c W
  have hlm : limits b c = (U.btw 1 b 1073741824 && U.btw 1 c 65536) := rfl
  rw [← hlm, h] at cl
  have H1 := Fs.bare (B := w.heap.size) (w := w) (Nat.le_refl _)
  have hb1 : Below w.heap.size w (w.alloc (.cells #[.slice none 0 0, .slice none 0 0, .int .i64 0, .int .i64 0, .int .i64 0, .slice none 0 0, .bool false] 47)) := (Below.refl _ _).alloc (Nat.le_refl _) _
  have cg := refroot_any H1 0 b c [⟨1, 1, ⟨1, 1, b, c⟩⟩] rfl List.Pairwise.nil (fun p hp => by cases hp) hb1.size (by decide) (by decide) (by decide) (by decide)
  rw [show bare.last + 1 = 1 from rfl] at cg
  have HB := Lib.hid hb1
  have HF := Lib.hid H1
  clear h hlm H1 hb1
  go_enter Try.func23, Try.ntmps23
  go_wp2_with (first
    | (go_at_call 39; refine (cl _).mono ?_; rintro e w2 ⟨rfl, rfl⟩)
    | (go_at_call 40; refine cg.mono ?_; rintro e w2 ⟨rfl, nv, dv, H2, t2, k2⟩))
  go_ret
  exact ⟨⟨_, nv, dv, rfl, H2⟩, HB.out.trans (HF.out.ofTurn t2 HB.out.size)⟩
end Go.Proofs.Ytmoimijclafgcaa.G
