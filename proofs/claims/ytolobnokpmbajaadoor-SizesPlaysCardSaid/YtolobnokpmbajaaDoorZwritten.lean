/-
  sizes.written: a line's text.
-/
import Derived.Test.YtolobnokpmbajaaDoorZbase
namespace Go.Proofs.YtolobnokpmbajaaDoor.Z
open Go.RowKit Go.Shelf

/-- the text of a line -/
def txt (x : Line) : List UInt8 := ((((Lib.itoa x.size ++ [32]) ++ Lib.itoa x.time) ++ [32]) ++ Q.M.enc x.name) ++ [10]
theorem itoa_le (n : Int) (h0 : -9223372036854775808 ≤ n) (h1 : n ≤ 9223372036854775807) : (Lib.itoa n).length ≤ 21 := Lib.itoa_length_le n h0 h1
/-- the box of a line, and the rest of the call's world -/
abbrev Hd (w0 : World) (b : Nat) (a t : Int) (n : List UInt8) (w' : World) : Prop :=
  w'.cell? ⟨b, 0, none⟩ = some (.int .i64 a) ∧ w'.cell? ⟨b, 1, none⟩ = some (.int .i64 t) ∧ w'.cell? ⟨b, 2, none⟩ = some (.string ⟨n.toArray⟩) ∧ K.Laid w' ∧ Below w0.heap.size w0 w'
theorem Hd.below {w0 w w' : World} {b : Nat} {a t : Int} {n : List UInt8} (h : Hd w0 b a t n w) (hb : Below w.heap.size w w') : Hd w0 b a t n w' := by
  obtain ⟨h0, h1, h2, h3, h4⟩ := h
  have hlt : b < w.heap.size := World.block_lt_of_cell? _ _ h0
  exact ⟨(hb.cell (p := ⟨b, 0, none⟩) hlt).trans h0, (hb.cell (p := ⟨b, 1, none⟩) hlt).trans h1, (hb.cell (p := ⟨b, 2, none⟩) hlt).trans h2, h3.of_below hb, below_two h4 hb⟩
theorem dec_held {w0 : World} {b : Nat} {a t : Int} {n : List UInt8} (z : Int) {l : List UInt8} (hz0 : -9223372036854775808 ≤ z) (hz1 : z ≤ 9223372036854775807) (hl : Lib.itoa z = l) (w : World) (h : Hd w0 b a t n w) :
    Calls Tryd.prog 48 #[.int .i64 z] w fun e w' => e = .returned (.string ⟨l.toArray⟩) ∧ Hd w0 b a t n w' :=
  (K.dec_any z w hz0 hz1 h.2.2.2.1).mono fun e w' ⟨he, hb⟩ => ⟨by rw [← hl]; exact he, h.below hb⟩
theorem enc_held {w0 : World} {b : Nat} {a t : Int} {n : List UInt8} {l : List UInt8} (hn : n.length ≤ 10000) (hl : Q.M.enc n = l) (w : World) (h : Hd w0 b a t n w) :
    Calls Tryd.prog 56 #[.string ⟨n.toArray⟩] w fun e w' => e = .returned (.string ⟨l.toArray⟩) ∧ Hd w0 b a t n w' :=
  (Q.encode_any ⟨n.toArray⟩ (by rw [size_l]; exact hn) w).mono fun e w' ⟨he, hb⟩ => ⟨by rw [← hl]; exact he, h.below hb⟩

set_option maxRecDepth 100000 in
set_option maxHeartbeats 4000000 in
theorem written_any (x : Line) (hn : x.name.length ≤ 3000) (h0 : -9223372036854775808 ≤ x.size) (h1 : x.size ≤ 9223372036854775807) (h2 : -9223372036854775808 ≤ x.time) (h3 : x.time ≤ 9223372036854775807) (w : World) (hL : K.Laid w) :
    Calls Tryd.prog 31 #[.agg (enc x).toArray] w fun e w' => e = .returned (.string ⟨(txt x).toArray⟩) ∧ Below w.heap.size w w' := by
  obtain ⟨a, t, n⟩ := x
  unfold enc
  dsimp only at hn h0 h1 h2 h3 ⊢
  have HT : Hid (txt ⟨a, t, n⟩ = ((((Lib.itoa a ++ [32]) ++ Lib.itoa t) ++ [32]) ++ Q.M.enc n) ++ [10]) := Lib.hid rfl
  have la := itoa_le a h0 h1
  have lt := itoa_le t h2 h3
  have ln := Q.M.enc_len n
  obtain ⟨A, hA⟩ : ∃ A, Lib.itoa a = A := ⟨_, rfl⟩
  obtain ⟨T, hT⟩ : ∃ T, Lib.itoa t = T := ⟨_, rfl⟩
  obtain ⟨N, hN⟩ : ∃ N, Q.M.enc n = N := ⟨_, rfl⟩
  have B0 : Below w.heap.size w (w.alloc (.cells #[.int .i64 a, .int .i64 t, .string ⟨n.toArray⟩] 30)) := (Below.refl _ _).alloc (Nat.le_refl _) _
  have T0 : Hd w w.heap.size a t n (w.alloc (.cells #[.int .i64 a, .int .i64 t, .string ⟨n.toArray⟩] 30)).drew := by
    have B1 := B0.drew
    exact ⟨by rw [World.cell?_drew, World.cell?_alloc_new]; rfl, by rw [World.cell?_drew, World.cell?_alloc_new]; rfl, by rw [World.cell?_drew, World.cell?_alloc_new]; rfl, hL.of_below B1, B1⟩
  have c1 := fun w' h => dec_held (w0 := w) (b := w.heap.size) (a := a) (t := t) (n := n) a h0 h1 hA w' h
  have c2 := fun w' h => dec_held (w0 := w) (b := w.heap.size) (a := a) (t := t) (n := n) t h2 h3 hT w' h
  have c3 := fun w' h => enc_held (w0 := w) (b := w.heap.size) (a := a) (t := t) (n := n) (by omega) hN w' h
  rw [hA, hT, hN] at HT
  rw [hA] at la; rw [hT] at lt; rw [hN] at ln
  have a1 := fun w => add_ll A [32] (by simp; omega) w
  have a2 := fun w => add_ll (A ++ [32]) T (by simp; omega) w
  have a3 := fun w => add_ll ((A ++ [32]) ++ T) [32] (by simp; omega) w
  have a4 := fun w => add_ll (((A ++ [32]) ++ T) ++ [32]) N (by simp; omega) w
  have a5 := fun w => add_ll ((((A ++ [32]) ++ T) ++ [32]) ++ N) [10] (by simp; omega) w
  clear hA hT hN la lt ln B0 hL
  rw [HT.out]
  generalize ((((A ++ [32]) ++ T) ++ [32]) ++ N) ++ [10] = R at a5 ⊢
  generalize (((A ++ [32]) ++ T) ++ [32]) ++ N = R4 at a4 a5
  generalize ((A ++ [32]) ++ T) ++ [32] = R3 at a3 a4
  generalize (A ++ [32]) ++ T = R2 at a2 a3
  generalize A ++ [32] = R1 at a1 a2
  clear HT
  have HH := Lib.hid (And.intro h0 (And.intro h1 (And.intro h2 h3)))
  clear h0 h1 h2 h3
  go_enter Tryd.func31, Tryd.ntmps31
  go_wp2_with fail
  generalize hW : w.alloc _ = W at *
  have HW := Lib.hid hW
  clear hW
  go_region_held3 (fun w' => w'.cell? ⟨w.heap.size, 0, none⟩ = some (.int .i64 a) ∧ w'.cell? ⟨w.heap.size, 1, none⟩ = some (.int .i64 t) ∧ w'.cell? ⟨w.heap.size, 2, none⟩ = some (.string ⟨n.toArray⟩) ∧ K.Laid w' ∧ Below w.heap.size w w') (first | exact T3 | exact T2 | exact T1 | exact T0)
    (first
      | (go_at_call 48; refine (c1 _ (by assumption)).mono ?_; clear c1; rintro e w2 ⟨rfl, T1⟩)
      | (go_at_call 48; refine (c2 _ (by assumption)).mono ?_; rintro e w2 ⟨rfl, T2⟩)
      | (go_at_call 56; refine (c3 _ (by assumption)).mono ?_; rintro e w2 ⟨rfl, T3⟩))
  go_wp2
  go_ret
  exact ⟨rfl, T3.2.2.2.2⟩
end Go.Proofs.YtolobnokpmbajaaDoor.Z
