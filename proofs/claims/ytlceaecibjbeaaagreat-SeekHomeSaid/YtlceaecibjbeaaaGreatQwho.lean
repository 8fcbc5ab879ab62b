/-
  What perm's Fine, root, bitsAt, applicable, May, Node, Owns and Free do.
-/
import Derived.Test.YtlceaecibjbeaaaGreatQmath
import Derived.Shelf.Small.Wraps
namespace Go.Proofs.YtlceaecibjbeaaaGreat.PM
open Go.RowKit Go.Shelf

theorem below_two {w w1 w2 : World} (h1 : Below w.heap.size w w1) (h2 : Below w1.heap.size w1 w2) : Below w.heap.size w w2 := h1.trans (h2.mono h1.size)
theorem ret_bool {a b : Bool} (h : a = b) : Ending.returned (.bool a) = .returned (.bool b) := by rw [h]
/-- what lies in a box -/
def Box (b : Nat) (cs : Array Value) (w : World) : Prop := ∀ (i : Nat) (v : Value), cs[i]? = some v → w.cell? ⟨b, i, none⟩ = some v
theorem Box.new (w : World) (cs : Array Value) (t : TypeId) : Box w.heap.size cs (w.alloc (.cells cs t)) := fun i v h => by
  rw [World.cell?_alloc_new]; exact h
theorem Box.later {b n : Nat} {cs : Array Value} {w w' : World} (c : Box b cs w) (hb : Below n w w') (hn : b < n) : Box b cs w' := fun i v h => by
  rw [hb.cell (by exact hn)]; exact c i v h
theorem Box.alloc {b : Nat} {cs : Array Value} {w : World} (c : Box b cs w) (hn : b < w.heap.size) (o : Obj) : Box b cs (w.alloc o) :=
  c.later ((Below.refl _ w).alloc (Nat.le_refl _) o) hn
/-- who asks, by value -/
def cred (u g : Int) : Value := .agg #[.int .i64 u, .int .i64 g]
/-- a node, by value -/
structure Nd where
  no : Int
  dev : Int
  kind : Int
  mode : Int
  uid : Int
  gid : Int
  mt : Int
  ct : Int
  links : Int
  up : Int
  data : ByteArray
  ea : Option Addr
  el : Nat
  ec : Nat
def Nd.v (n : Nd) : Value := .agg #[.int .i64 n.no, .int .i64 n.dev, .int .i64 n.kind, .int .i64 n.mode, .int .i64 n.uid, .int .i64 n.gid, .int .i64 n.mt, .int .i64 n.ct, .int .i64 n.links, .int .i64 n.up, .string n.data, .slice n.ea n.el n.ec]

set_option maxHeartbeats 1000000 in
theorem root_any (u g : Int) (w : World) : Calls Tryz.prog 111 #[.agg #[.int .i64 u, .int .i64 g]] w fun e w' => e = .returned (.bool (decide (u = 0))) ∧ Below w.heap.size w w' := by
  go_enter Tryz.func111, Tryz.ntmps111
  go_wp2
  all_goals go_ret
  refine ⟨ret_bool ?_, ?_⟩
  · rfl
  · go_grown

set_option maxHeartbeats 1000000 in
theorem bitsAt_any (x k : Int) (h0 : 0 ≤ k) (h1 : k ≤ 60) (w : World) : Calls Tryz.prog 126 #[.int .i64 x, .int .i64 k] w fun e w' => e = .returned (.int .i64 (x / 2 ^ k.toNat % 8)) ∧ w = w' := by
  have H7 := and7
  go_enter Tryz.func126, Tryz.ntmps126
  go_wp2
  go_ret
  exact ⟨rfl, rfl⟩

def ap (cu cg u g mode : Int) : Int := mode / 2 ^ (from3 cu cg u g) % 8
set_option maxHeartbeats 1000000 in
theorem applicable_any (cu cg u g mode : Int) (w : World) : Calls Tryz.prog 112 #[.agg #[.int .i64 cu, .int .i64 cg], .int .i64 u, .int .i64 g, .int .i64 mode] w fun e w' => e = .returned (.int .i64 (ap cu cg u g mode)) ∧ Below w.heap.size w w' := by
  have e6 := bitsAt_any mode 6 (by decide) (by decide)
  have e3 := bitsAt_any mode 3 (by decide) (by decide)
  have e0 := bitsAt_any mode 0 (by decide) (by decide)
  by_cases h1 : cu = u
  · have h : ap cu cg u g mode = mode / 2 ^ (6 : Int).toNat % 8 := by unfold ap from3; rw [if_pos h1]; rfl
    rw [h]
    clear h
    generalize mode / 2 ^ (6 : Int).toNat % 8 = r at e6 ⊢
    go_enter Tryz.func112, Tryz.ntmps112
    go_wp2_with (refine (e6 _).mono ?_; rintro e w1 ⟨rfl, rfl⟩)
    go_ret
    refine ⟨rfl, ?_⟩
    go_grown
  · by_cases h2 : cg = g
    · have h : ap cu cg u g mode = mode / 2 ^ (3 : Int).toNat % 8 := by unfold ap from3; rw [if_neg h1, if_pos h2]; rfl
      rw [h]
      clear h
      generalize mode / 2 ^ (3 : Int).toNat % 8 = r at e3 ⊢
      go_enter Tryz.func112, Tryz.ntmps112
      go_wp2_with (refine (e3 _).mono ?_; rintro e w1 ⟨rfl, rfl⟩)
      go_ret
      refine ⟨rfl, ?_⟩
      go_grown
    · have h : ap cu cg u g mode = mode / 2 ^ (0 : Int).toNat % 8 := by unfold ap from3; rw [if_neg h1, if_neg h2]; rfl
      rw [h]
      clear h
      generalize mode / 2 ^ (0 : Int).toNat % 8 = r at e0 ⊢
      go_enter Tryz.func112, Tryz.ntmps112
      go_wp2_with (refine (e0 _).mono ?_; rintro e w1 ⟨rfl, rfl⟩)
      go_ret
      refine ⟨rfl, ?_⟩
      go_grown

set_option maxHeartbeats 1000000 in
theorem May_any (cu cg u g mode want : Int) (w : World) : Calls Tryz.prog 96 #[.agg #[.int .i64 cu, .int .i64 cg], .int .i64 u, .int .i64 g, .int .i64 mode, .int .i64 want] w fun e w' => e = .returned (.bool (may cu cg u g mode want)) ∧ Below w.heap.size w w' := by
  have hm : may cu cg u g mode want = (decide (cu = 0) || (aN (want % 8) (ap cu cg u g mode) == 0)) := by
    unfold may ap; rw [← aN_ok]; rfl
  have c1 := fun w => root_any cu cg w
  have c2 := fun w => applicable_any cu cg u g mode w
  have HA := Lib.hid (fun a b => (rfl : aN a b = bits .andNot .i64 a b))
  have h7 := and7 want
  rw [hm]
  clear hm
  generalize ap cu cg u g mode = r at c2 ⊢
  generalize want % 8 = q at h7 ⊢
  obtain ⟨b, hb⟩ : ∃ b, decide (cu = 0) = b := ⟨_, rfl⟩
  rw [hb] at c1 ⊢
  clear hb
  go_enter Tryz.func96, Tryz.ntmps96
  cases b
  all_goals go_wp2_with (first | (refine (c1 _).mono ?_; clear c1; rintro e w1 ⟨rfl, b1⟩; have k0 := ((Box.new w #[.int .i64 cu, .int .i64 cg] 24).later b1 (by simp)) 0 _ rfl; have k1 := ((Box.new w #[.int .i64 cu, .int .i64 cg] 24).later b1 (by simp)) 1 _ rfl) | (refine (c2 _).mono ?_; rintro e w2 ⟨rfl, b2⟩))
  all_goals go_ret
  all_goals refine ⟨by simp [aN], ?_⟩
  · exact ((Below.refl _ w).alloc (Nat.le_refl _) _).trans ((b1.trans (b2.mono b1.size)).mono (by simp))
  · exact ((Below.refl _ w).alloc (Nat.le_refl _) _).trans (b1.mono (by simp))

set_option maxHeartbeats 1000000 in
theorem Node_any (cu cg : Int) (n : Nd) (want : Int) (w : World) : Calls Tryz.prog 64 #[cred cu cg, n.v, .int .i64 want] w fun e w' => e = .returned (.bool (may cu cg n.uid n.gid n.mode want)) ∧ Below w.heap.size w w' := by
  obtain ⟨no, dev, kind, mode, uid, gid, mt, ct, links, up, data, ea, el, ec⟩ := n
  dsimp only [Nd.v, cred]
  have c1 := fun w => May_any cu cg uid gid mode want w
  generalize may cu cg uid gid mode want = r at c1 ⊢
  go_enter Tryz.func64, Tryz.ntmps64
  go_wp2_with (refine (c1 _).mono ?_; rintro e w1 ⟨rfl, b1⟩)
  go_ret
  exact ⟨rfl, (((Below.refl _ w).alloc (Nat.le_refl _) _).alloc (by simp) _).trans (b1.mono (by simp; omega))⟩

/-- the twelve cells of a node -/
def Nd.cs (n : Nd) : Array Value := #[.int .i64 n.no, .int .i64 n.dev, .int .i64 n.kind, .int .i64 n.mode, .int .i64 n.uid, .int .i64 n.gid, .int .i64 n.mt, .int .i64 n.ct, .int .i64 n.links, .int .i64 n.up, .string n.data, .slice n.ea n.el n.ec]
/-- the two cells of who asks, and the twelve of a node, told one by one -/
theorem Box.two {b : Nat} {x y : Value} {w : World} (c : Box b #[x, y] w) : w.cell? ⟨b, 0, none⟩ = some x ∧ w.cell? ⟨b, 1, none⟩ = some y := ⟨c 0 _ rfl, c 1 _ rfl⟩
theorem Box.twelve {b : Nat} {x0 x1 x2 x3 x4 x5 x6 x7 x8 x9 x10 x11 : Value} {w : World} (c : Box b #[x0, x1, x2, x3, x4, x5, x6, x7, x8, x9, x10, x11] w) :
    w.cell? ⟨b, 0, none⟩ = some x0 ∧ w.cell? ⟨b, 1, none⟩ = some x1 ∧ w.cell? ⟨b, 2, none⟩ = some x2 ∧ w.cell? ⟨b, 3, none⟩ = some x3 ∧ w.cell? ⟨b, 4, none⟩ = some x4 ∧ w.cell? ⟨b, 5, none⟩ = some x5 ∧
    w.cell? ⟨b, 6, none⟩ = some x6 ∧ w.cell? ⟨b, 7, none⟩ = some x7 ∧ w.cell? ⟨b, 8, none⟩ = some x8 ∧ w.cell? ⟨b, 9, none⟩ = some x9 ∧ w.cell? ⟨b, 10, none⟩ = some x10 ∧ w.cell? ⟨b, 11, none⟩ = some x11 :=
  ⟨c 0 _ rfl, c 1 _ rfl, c 2 _ rfl, c 3 _ rfl, c 4 _ rfl, c 5 _ rfl, c 6 _ rfl, c 7 _ rfl, c 8 _ rfl, c 9 _ rfl, c 10 _ rfl, c 11 _ rfl⟩

theorem not512 (x : Int) : (bits .and .i64 x 512 == 0) = !bt x 9 := by
  have h := and_bit x 9 (by decide)
  rw [show ((2 ^ 9 : Nat) : Int) = 512 from rfl] at h
  rw [h]; cases bt x 9 <;> rfl
/-- two nodes, by value -/
def two (a b : Nd) : Value := .agg #[.int .i64 a.no, .int .i64 a.dev, .int .i64 a.kind, .int .i64 a.mode, .int .i64 a.uid, .int .i64 a.gid, .int .i64 a.mt, .int .i64 a.ct, .int .i64 a.links, .int .i64 a.up, .string a.data, .slice a.ea a.el a.ec, .int .i64 b.no, .int .i64 b.dev, .int .i64 b.kind, .int .i64 b.mode, .int .i64 b.uid, .int .i64 b.gid, .int .i64 b.mt, .int .i64 b.ct, .int .i64 b.links, .int .i64 b.up, .string b.data, .slice b.ea b.el b.ec]
end Go.Proofs.YtlceaecibjbeaaaGreat.PM
