/-
  PermTells, walked.
-/
import Derived.Test.YtccdpkbiandjdaaQawk
import Derived.Deep.RegionHeld3
namespace Go.Proofs.Ytccdpkbiandjdaa.PM
open Go.RowKit Go.Shelf

/-- both boxes lie as they were -/
def Kept2 (w : World) (cs ds : Array Value) (W : World) : Prop := Below w.heap.size w W ∧ w.heap.size + 1 < W.heap.size ∧ Box w.heap.size cs W ∧ Box (w.heap.size + 1) ds W
theorem Kept2.next {w W W' : World} {cs ds : Array Value} (k : Kept2 w cs ds W) (b : Below W.heap.size W W') : Kept2 w cs ds W' :=
  ⟨below_two k.1 b, Nat.lt_of_lt_of_le k.2.1 b.size, k.2.2.1.later b (Nat.lt_of_succ_lt k.2.1), k.2.2.2.later b k.2.1⟩
theorem Kept2.new (w : World) (cs ds : Array Value) (t u : TypeId) : Kept2 w cs ds ((w.alloc (.cells cs t)).alloc (.cells ds u)) := by
  refine ⟨((Below.refl _ w).alloc (Nat.le_refl _) _).alloc (by simp) _, by simp, (Box.new w cs t).alloc (by simp) _, ?_⟩
  have h := Box.new (w.alloc (.cells cs t)) ds u
  rw [World.size_alloc] at h
  exact h
theorem Box.nodes2 {b : Nat} {x0 x1 x2 x3 x4 x5 x6 x7 x8 x9 x10 x11 x12 x13 x14 x15 x16 x17 x18 x19 x20 x21 x22 x23 : Value} {w : World} (c : Box b #[x0, x1, x2, x3, x4, x5, x6, x7, x8, x9, x10, x11, x12, x13, x14, x15, x16, x17, x18, x19, x20, x21, x22, x23] w) :
    w.cell? ⟨b, 0, none⟩ = some x0 ∧ w.cell? ⟨b, 1, none⟩ = some x1 ∧ w.cell? ⟨b, 2, none⟩ = some x2 ∧ w.cell? ⟨b, 3, none⟩ = some x3 ∧ w.cell? ⟨b, 4, none⟩ = some x4 ∧ w.cell? ⟨b, 5, none⟩ = some x5 ∧ w.cell? ⟨b, 6, none⟩ = some x6 ∧ w.cell? ⟨b, 7, none⟩ = some x7 ∧ w.cell? ⟨b, 8, none⟩ = some x8 ∧ w.cell? ⟨b, 9, none⟩ = some x9 ∧ w.cell? ⟨b, 10, none⟩ = some x10 ∧ w.cell? ⟨b, 11, none⟩ = some x11 ∧ w.cell? ⟨b, 12, none⟩ = some x12 ∧ w.cell? ⟨b, 13, none⟩ = some x13 ∧ w.cell? ⟨b, 14, none⟩ = some x14 ∧ w.cell? ⟨b, 15, none⟩ = some x15 ∧ w.cell? ⟨b, 16, none⟩ = some x16 ∧ w.cell? ⟨b, 17, none⟩ = some x17 ∧ w.cell? ⟨b, 18, none⟩ = some x18 ∧ w.cell? ⟨b, 19, none⟩ = some x19 ∧ w.cell? ⟨b, 20, none⟩ = some x20 ∧ w.cell? ⟨b, 21, none⟩ = some x21 ∧ w.cell? ⟨b, 22, none⟩ = some x22 ∧ w.cell? ⟨b, 23, none⟩ = some x23 :=
  ⟨c 0 _ rfl, c 1 _ rfl, c 2 _ rfl, c 3 _ rfl, c 4 _ rfl, c 5 _ rfl, c 6 _ rfl, c 7 _ rfl, c 8 _ rfl, c 9 _ rfl, c 10 _ rfl, c 11 _ rfl, c 12 _ rfl, c 13 _ rfl, c 14 _ rfl, c 15 _ rfl, c 16 _ rfl, c 17 _ rfl, c 18 _ rfl, c 19 _ rfl, c 20 _ rfl, c 21 _ rfl, c 22 _ rfl, c 23 _ rfl⟩

theorem Kept2.drew {w W : World} {cs ds : Array Value} (k : Kept2 w cs ds W) : Kept2 w cs ds W.drew := k.next ((Below.refl _ W).drew)
theorem Kept2.all {w W : World} {y z x0 x1 x2 x3 x4 x5 x6 x7 x8 x9 x10 x11 x12 x13 x14 x15 x16 x17 x18 x19 x20 x21 x22 x23 : Value} (k : Kept2 w #[y, z] #[x0, x1, x2, x3, x4, x5, x6, x7, x8, x9, x10, x11, x12, x13, x14, x15, x16, x17, x18, x19, x20, x21, x22, x23] W) :
    W.cell? ⟨w.heap.size, 0, none⟩ = some y ∧ W.cell? ⟨w.heap.size, 1, none⟩ = some z ∧ W.cell? ⟨w.heap.size + 1, 0, none⟩ = some x0 ∧ W.cell? ⟨w.heap.size + 1, 1, none⟩ = some x1 ∧ W.cell? ⟨w.heap.size + 1, 2, none⟩ = some x2 ∧ W.cell? ⟨w.heap.size + 1, 3, none⟩ = some x3 ∧ W.cell? ⟨w.heap.size + 1, 4, none⟩ = some x4 ∧ W.cell? ⟨w.heap.size + 1, 5, none⟩ = some x5 ∧ W.cell? ⟨w.heap.size + 1, 6, none⟩ = some x6 ∧ W.cell? ⟨w.heap.size + 1, 7, none⟩ = some x7 ∧ W.cell? ⟨w.heap.size + 1, 8, none⟩ = some x8 ∧ W.cell? ⟨w.heap.size + 1, 9, none⟩ = some x9 ∧ W.cell? ⟨w.heap.size + 1, 10, none⟩ = some x10 ∧ W.cell? ⟨w.heap.size + 1, 11, none⟩ = some x11 ∧ W.cell? ⟨w.heap.size + 1, 12, none⟩ = some x12 ∧ W.cell? ⟨w.heap.size + 1, 13, none⟩ = some x13 ∧ W.cell? ⟨w.heap.size + 1, 14, none⟩ = some x14 ∧ W.cell? ⟨w.heap.size + 1, 15, none⟩ = some x15 ∧ W.cell? ⟨w.heap.size + 1, 16, none⟩ = some x16 ∧ W.cell? ⟨w.heap.size + 1, 17, none⟩ = some x17 ∧ W.cell? ⟨w.heap.size + 1, 18, none⟩ = some x18 ∧ W.cell? ⟨w.heap.size + 1, 19, none⟩ = some x19 ∧ W.cell? ⟨w.heap.size + 1, 20, none⟩ = some x20 ∧ W.cell? ⟨w.heap.size + 1, 21, none⟩ = some x21 ∧ W.cell? ⟨w.heap.size + 1, 22, none⟩ = some x22 ∧ W.cell? ⟨w.heap.size + 1, 23, none⟩ = some x23 :=
  ⟨k.2.2.1 0 _ rfl, k.2.2.1 1 _ rfl, k.2.2.2 0 _ rfl, k.2.2.2 1 _ rfl, k.2.2.2 2 _ rfl, k.2.2.2 3 _ rfl, k.2.2.2 4 _ rfl, k.2.2.2 5 _ rfl, k.2.2.2 6 _ rfl, k.2.2.2 7 _ rfl, k.2.2.2 8 _ rfl, k.2.2.2 9 _ rfl, k.2.2.2 10 _ rfl, k.2.2.2 11 _ rfl, k.2.2.2 12 _ rfl, k.2.2.2 13 _ rfl, k.2.2.2 14 _ rfl, k.2.2.2 15 _ rfl, k.2.2.2 16 _ rfl, k.2.2.2 17 _ rfl, k.2.2.2 18 _ rfl, k.2.2.2 19 _ rfl, k.2.2.2 20 _ rfl, k.2.2.2 21 _ rfl, k.2.2.2 22 _ rfl, k.2.2.2 23 _ rfl⟩

set_option maxHeartbeats 4000000 in
theorem permTells_walk (u g : Int) (n m : Nd) (want : Int) (w : World) : Calls Try.prog 3 #[cred u g, two n m, .int .i64 want] w fun e w' => e = .returned (.bool true) ∧ Below w.heap.size w w' := by
  have c1 := fun w => Fine_any u g w
  have c2 := fun w => refFine_any u g w
  have c3 := fun w => Node_any u g n want w
  have c4 := fun w => refNode_any u g n want w
  have c5 := fun w => May_any u g m.uid m.gid m.mode want w
  have c6 := fun w => refNode_any u g m want w
  have c7 := fun w => Owns_any u g n w
  have c8 := fun w => refOwns_any u g n w
  have c9 := fun w => Free_any u g n m w
  have c10 := fun w => refFree_any u g n m w
  have c11 := fun w => Text_any n.kind n.mode w
  have c12 := fun w => refText_any n.kind n.mode w
  have ca := fun w => awake_any w
  obtain ⟨n_no, n_dev, n_kind, n_mode, n_uid, n_gid, n_mt, n_ct, n_links, n_up, n_data, n_ea, n_el, n_ec⟩ := n
  obtain ⟨m_no, m_dev, m_kind, m_mode, m_uid, m_gid, m_mt, m_ct, m_links, m_up, m_data, m_ea, m_el, m_ec⟩ := m
  dsimp only [Nd.v, cred, two] at *
  generalize (fineB u && fineB g) = r1 at c1 c2
  generalize may u g n_uid n_gid n_mode want = r2 at c3 c4
  generalize may u g m_uid m_gid m_mode want = r3 at c5 c6
  generalize owns u n_uid = r4 at c7 c8
  generalize free u n_uid n_mode m_uid = r5 at c9 c10
  generalize (⟨(txt n_kind n_mode).toArray⟩ : ByteArray) = r6 at c11 c12
  have kp := Kept2.drew (Kept2.new w #[.int .i64 u, .int .i64 g] #[.int .i64 n_no, .int .i64 n_dev, .int .i64 n_kind, .int .i64 n_mode, .int .i64 n_uid, .int .i64 n_gid, .int .i64 n_mt, .int .i64 n_ct, .int .i64 n_links, .int .i64 n_up, .string n_data, .slice n_ea n_el n_ec, .int .i64 m_no, .int .i64 m_dev, .int .i64 m_kind, .int .i64 m_mode, .int .i64 m_uid, .int .i64 m_gid, .int .i64 m_mt, .int .i64 m_ct, .int .i64 m_links, .int .i64 m_up, .string m_data, .slice m_ea m_el m_ec] 23 27)
  go_enter Try.func3, Try.ntmps3
  go_wp2
  dsimp only [List.append]
  go_region_held3 (fun w' => w'.cell? ⟨w.heap.size, 0, none⟩ = some (.int .i64 u) ∧ w'.cell? ⟨w.heap.size, 1, none⟩ = some (.int .i64 g) ∧ w'.cell? ⟨w.heap.size + 1, 0, none⟩ = some (.int .i64 n_no) ∧ w'.cell? ⟨w.heap.size + 1, 1, none⟩ = some (.int .i64 n_dev) ∧ w'.cell? ⟨w.heap.size + 1, 2, none⟩ = some (.int .i64 n_kind) ∧ w'.cell? ⟨w.heap.size + 1, 3, none⟩ = some (.int .i64 n_mode) ∧ w'.cell? ⟨w.heap.size + 1, 4, none⟩ = some (.int .i64 n_uid) ∧ w'.cell? ⟨w.heap.size + 1, 5, none⟩ = some (.int .i64 n_gid) ∧ w'.cell? ⟨w.heap.size + 1, 6, none⟩ = some (.int .i64 n_mt) ∧ w'.cell? ⟨w.heap.size + 1, 7, none⟩ = some (.int .i64 n_ct) ∧ w'.cell? ⟨w.heap.size + 1, 8, none⟩ = some (.int .i64 n_links) ∧ w'.cell? ⟨w.heap.size + 1, 9, none⟩ = some (.int .i64 n_up) ∧ w'.cell? ⟨w.heap.size + 1, 10, none⟩ = some (.string n_data) ∧ w'.cell? ⟨w.heap.size + 1, 11, none⟩ = some (.slice n_ea n_el n_ec) ∧ w'.cell? ⟨w.heap.size + 1, 12, none⟩ = some (.int .i64 m_no) ∧ w'.cell? ⟨w.heap.size + 1, 13, none⟩ = some (.int .i64 m_dev) ∧ w'.cell? ⟨w.heap.size + 1, 14, none⟩ = some (.int .i64 m_kind) ∧ w'.cell? ⟨w.heap.size + 1, 15, none⟩ = some (.int .i64 m_mode) ∧ w'.cell? ⟨w.heap.size + 1, 16, none⟩ = some (.int .i64 m_uid) ∧ w'.cell? ⟨w.heap.size + 1, 17, none⟩ = some (.int .i64 m_gid) ∧ w'.cell? ⟨w.heap.size + 1, 18, none⟩ = some (.int .i64 m_mt) ∧ w'.cell? ⟨w.heap.size + 1, 19, none⟩ = some (.int .i64 m_ct) ∧ w'.cell? ⟨w.heap.size + 1, 20, none⟩ = some (.int .i64 m_links) ∧ w'.cell? ⟨w.heap.size + 1, 21, none⟩ = some (.int .i64 m_up) ∧ w'.cell? ⟨w.heap.size + 1, 22, none⟩ = some (.string m_data) ∧ w'.cell? ⟨w.heap.size + 1, 23, none⟩ = some (.slice m_ea m_el m_ec)) (exact kp.all)
    (first
      | (go_at_call 6; refine (c1 _).mono ?_; rintro e W' ⟨rfl, b1⟩; have kp := kp.next b1)
      | (go_at_call 7; refine (c2 _).mono ?_; rintro e W' ⟨rfl, b1⟩; have kp := kp.next b1)
      | (go_at_call 8; refine (c3 _).mono ?_; rintro e W' ⟨rfl, b1⟩; have kp := kp.next b1)
      | (go_at_call 9; refine (c4 _).mono ?_; clear c4; rintro e W' ⟨rfl, b1⟩; have kp := kp.next b1)
      | (go_at_call 9; refine (c6 _).mono ?_; rintro e W' ⟨rfl, b1⟩; have kp := kp.next b1)
      | (go_at_call 10; refine (c5 _).mono ?_; rintro e W' ⟨rfl, b1⟩; have kp := kp.next b1)
      | (go_at_call 11; refine (c7 _).mono ?_; rintro e W' ⟨rfl, b1⟩; have kp := kp.next b1)
      | (go_at_call 12; refine (c8 _).mono ?_; rintro e W' ⟨rfl, b1⟩; have kp := kp.next b1)
      | (go_at_call 13; refine (c9 _).mono ?_; rintro e W' ⟨rfl, b1⟩; have kp := kp.next b1)
      | (go_at_call 14; refine (c10 _).mono ?_; rintro e W' ⟨rfl, b1⟩; have kp := kp.next b1)
      | (go_at_call 15; refine (c11 _).mono ?_; rintro e W' ⟨rfl, rfl⟩)
      | (go_at_call 16; refine (c12 _).mono ?_; rintro e W' ⟨rfl, rfl⟩)
      | (go_at_call 17; refine (ca _).mono ?_; rintro e W' ⟨rfl, b1⟩; have kp := kp.next b1))
  go_wp2
  go_ret
  exact ⟨rfl, kp.1⟩
end Go.Proofs.Ytccdpkbiandjdaa.PM
