/-
  How a text is read, as lists: the marks and widths, one by one. Six cells, one of them written.
-/
import Derived.Test.YtjdccfegmllphaaGreatDoorDval2
import Derived.Test.YtjdccfegmllphaaGreatDoorDtext
namespace Go.Proofs.YtjdccfegmllphaaGreatDoor
open Go.RowKit Go.Shelf

def mks : List (List UInt8 × Nat) := [([], 4), ([45], 2), ([45], 2), ([84], 2), ([58], 2), ([58], 2)]
def rd : List (List UInt8 × Nat) → List UInt8 → Option (List Int)
  | [], l => if l = [] then some [] else none
  | (mk, k) :: ps, l =>
    if Lib.hasPrefix l mk = true ∧ k ≤ (Lib.trimPrefix l mk).length ∧ ((Lib.trimPrefix l mk).take k).all M.dig = true then
      (rd ps ((Lib.trimPrefix l mk).drop k)).map ((M.val 0 ((Lib.trimPrefix l mk).take k) : Int) :: ·)
    else none
theorem rd_no {mk : List UInt8} {k : Nat} {ps : List (List UInt8 × Nat)} {l : List UInt8} (h : ¬ (Lib.hasPrefix l mk = true ∧ k ≤ (Lib.trimPrefix l mk).length ∧ ((Lib.trimPrefix l mk).take k).all M.dig = true)) : rd ((mk, k) :: ps) l = none := by
  rw [rd, if_neg h]
theorem rd_yes {mk : List UInt8} {k : Nat} {ps : List (List UInt8 × Nat)} {l : List UInt8} (h : Lib.hasPrefix l mk = true ∧ k ≤ (Lib.trimPrefix l mk).length ∧ ((Lib.trimPrefix l mk).take k).all M.dig = true) :
    rd ((mk, k) :: ps) l = (rd ps ((Lib.trimPrefix l mk).drop k)).map ((M.val 0 ((Lib.trimPrefix l mk).take k) : Int) :: ·) := by
  rw [rd, if_pos h]
/-- what stands at place k of the table -/
theorem table (k : Nat) (hk : k < 6) : ∃ (mk : ByteArray) (wd : Nat), 2 ≤ wd ∧ wd ≤ 4 ∧ mks.drop k = (mk.data.toList, wd) :: mks.drop (k + 1) ∧
    ∀ w : World, (Instr.index 64 (.agg #[.string ⟨#[]⟩, .int .i64 4, .string ⟨#[45]⟩, .int .i64 2, .string ⟨#[45]⟩, .int .i64 2, .string ⟨#[84]⟩, .int .i64 2, .string ⟨#[58]⟩, .int .i64 2, .string ⟨#[58]⟩, .int .i64 2]) (.int .i64 k)).run Tryz.prog w = .ok (.agg #[.string mk, .int .i64 wd]) w := by
  have : k = 0 ∨ k = 1 ∨ k = 2 ∨ k = 3 ∨ k = 4 ∨ k = 5 := by omega
  rcases this with rfl | rfl | rfl | rfl | rfl | rfl
  · exact ⟨⟨#[]⟩, 4, by decide, by decide, rfl, idx0⟩
  · exact ⟨⟨#[45]⟩, 2, by decide, by decide, rfl, idx1⟩
  · exact ⟨⟨#[45]⟩, 2, by decide, by decide, rfl, idx2⟩
  · exact ⟨⟨#[84]⟩, 2, by decide, by decide, rfl, idx3⟩
  · exact ⟨⟨#[58]⟩, 2, by decide, by decide, rfl, idx4⟩
  · exact ⟨⟨#[58]⟩, 2, by decide, by decide, rfl, idx5⟩
theorem Six.at {b : Nat} {y m d h i s : Int} {w : World} (c : Six b y m d h i s w) (k : Nat) (hk : k < 6) : ∃ x : Int, w.cell? ⟨b, k, none⟩ = some (.int .i64 x) ∧ ([y, m, d, h, i, s] : List Int).getD k 0 = x := by
  obtain ⟨c0, c1, c2, c3, c4, c5⟩ := c
  have : k = 0 ∨ k = 1 ∨ k = 2 ∨ k = 3 ∨ k = 4 ∨ k = 5 := by omega
  rcases this with rfl | rfl | rfl | rfl | rfl | rfl
  · exact ⟨_, c0, rfl⟩
  · exact ⟨_, c1, rfl⟩
  · exact ⟨_, c2, rfl⟩
  · exact ⟨_, c3, rfl⟩
  · exact ⟨_, c4, rfl⟩
  · exact ⟨_, c5, rfl⟩
theorem Open6.at {b : Nat} {w : World} (c : Open6 b w) (k : Nat) (hk : k < 6) : w.frozen? ⟨b, k, none⟩ = false := by
  obtain ⟨c0, c1, c2, c3, c4, c5⟩ := c
  have : k = 0 ∨ k = 1 ∨ k = 2 ∨ k = 3 ∨ k = 4 ∨ k = 5 := by omega
  rcases this with rfl | rfl | rfl | rfl | rfl | rfl <;> assumption
theorem Open6.set {b : Nat} {w : World} (c : Open6 b w) (a : Addr) (v : Value) : Open6 b (w.setCell a v) := by
  obtain ⟨c0, c1, c2, c3, c4, c5⟩ := c
  refine ⟨?_, ?_, ?_, ?_, ?_, ?_⟩ <;> rw [World.frozen?_setCell] <;> assumption
theorem Six.set {b : Nat} {y m d h i s : Int} {w : World} (c : Six b y m d h i s w) (k : Nat) (hk : k < 6) (v : Int) :
    ∃ y' m' d' h' i' s' : Int, Six b y' m' d' h' i' s' (w.setCell ⟨b, k, none⟩ (.int .i64 v)) ∧ ([y', m', d', h', i', s'] : List Int) = [y, m, d, h, i, s].set k v := by
  obtain ⟨c0, c1, c2, c3, c4, c5⟩ := c
  have : k = 0 ∨ k = 1 ∨ k = 2 ∨ k = 3 ∨ k = 4 ∨ k = 5 := by omega
  rcases this with rfl | rfl | rfl | rfl | rfl | rfl
  · refine ⟨v, m, d, h, i, s, ⟨World.cell?_setCell_same _ _ _ c0, ?_, ?_, ?_, ?_, ?_⟩, rfl⟩ <;> rw [World.cell?_setCell_other _ _ _ _ (by simp)] <;> assumption
  · refine ⟨y, v, d, h, i, s, ⟨?_, World.cell?_setCell_same _ _ _ c1, ?_, ?_, ?_, ?_⟩, rfl⟩ <;> rw [World.cell?_setCell_other _ _ _ _ (by simp)] <;> assumption
  · refine ⟨y, m, v, h, i, s, ⟨?_, ?_, World.cell?_setCell_same _ _ _ c2, ?_, ?_, ?_⟩, rfl⟩ <;> rw [World.cell?_setCell_other _ _ _ _ (by simp)] <;> assumption
  · refine ⟨y, m, d, v, i, s, ⟨?_, ?_, ?_, World.cell?_setCell_same _ _ _ c3, ?_, ?_⟩, rfl⟩ <;> rw [World.cell?_setCell_other _ _ _ _ (by simp)] <;> assumption
  · refine ⟨y, m, d, h, v, s, ⟨?_, ?_, ?_, ?_, World.cell?_setCell_same _ _ _ c4, ?_⟩, rfl⟩ <;> rw [World.cell?_setCell_other _ _ _ _ (by simp)] <;> assumption
  · refine ⟨y, m, d, h, i, v, ⟨?_, ?_, ?_, ?_, ?_, World.cell?_setCell_same _ _ _ c5⟩, rfl⟩ <;> rw [World.cell?_setCell_other _ _ _ _ (by simp)] <;> assumption
theorem take_set {α : Type} (l : List α) (k : Nat) (v : α) (hk : k < l.length) : (l.set k v).take (k + 1) = l.take k ++ [v] := by
  rw [List.take_succ_eq_append_getElem (by simpa using hk), List.getElem_set_self, List.take_set_of_le (Nat.le_refl _)]
theorem map_step {o : Option (List Int)} {a : List Int} {v : Int} : (o.map (v :: ·)).map (a ++ ·) = o.map ((a ++ [v]) ++ ·) := by
  cases o <;> simp
theorem cut_is {A mk B : ByteArray} {b : Bool} (hB : B.data.toList = Lib.trimPrefix A.data.toList mk.data.toList) (hb : Lib.hasPrefix A.data.toList mk.data.toList = b) (w : World) :
    Calls Tryz.prog 64 #[.string A, .string mk] w fun e w' => e = .returned (.tuple #[.string B, .bool b]) ∧ w = w' :=
  (Tryz.strings_CutPrefix A mk w).mono fun e w' ⟨he, hw⟩ => ⟨by rw [he, ← hB, hb], hw.symm⟩
theorem value_is {D : ByteArray} {v : Int} {b : Bool} (hD : vl D.data.toList = (v, b)) (hs : D.size ≤ 4) (w : World) :
    Calls Tryz.prog 65 #[.string D] w fun e w' => e = .returned (.tuple #[.int .i64 v, .bool b]) ∧ w = w' :=
  (value_any D hs w).mono fun e w' ⟨he, hw⟩ => ⟨by rw [he, hD], hw⟩
end Go.Proofs.YtjdccfegmllphaaGreatDoor
