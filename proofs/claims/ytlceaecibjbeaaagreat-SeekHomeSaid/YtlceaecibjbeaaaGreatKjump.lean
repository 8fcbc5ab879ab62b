/-
  The walk's methods: jump.
-/
import Derived.Test.YtlceaecibjbeaaaGreatKlead
namespace Go.Proofs.YtlceaecibjbeaaaGreat.K
open Go.RowKit Go.Shelf G
attribute [local go_sem] Oper.semAt_some

section
variable {B b X : Nat} {st : St} {here : Int} {rest : List (List UInt8)} {must : Bool} {hops : Nat} {w w' : World}
set_option maxRecDepth 100000 in
set_option maxHeartbeats 8000000 in
theorem jump_loop (s : ByteArray) (h : At B b X st here rest must 8 w) :
    Calls Tryz.prog 27 #[.pointer (some ⟨b, 0, none⟩), .string s] w fun e w' => e = .returned (.int .i64 12) ∧ w = w' := by
  obtain ⟨es, rv, H, hO, hS⟩ := h
  obtain ⟨c0, c1, c2, c3, c4, c5, c6, c7, c8, c9, c10, c11, c12, c13, c14, c15⟩ := H.facts
  clear H hO hS c0 c1 c2 c3 c4 c5 c6 c7 c8 c9 c10 c11 c12 c13 c15
  go_enter Tryz.func27, Tryz.ntmps27
  go_wp2
  go_ret
  exact ⟨rfl, rfl⟩
set_option maxRecDepth 100000 in
set_option maxHeartbeats 8000000 in
theorem jump_empty (h8 : hops < 8) (h : At B b X st here rest must hops w) :
    Calls Tryz.prog 27 #[.pointer (some ⟨b, 0, none⟩), .string ⟨#[]⟩] w fun e w' => e = .returned (.int .i64 5) ∧ w = w' := by
  obtain ⟨es, rv, H, hO, hS⟩ := h
  obtain ⟨c0, c1, c2, c3, c4, c5, c6, c7, c8, c9, c10, c11, c12, c13, c14, c15⟩ := H.facts
  have h8' : (((hops : Int)) == 8) = false := by simp; omega
  clear H hO hS c0 c1 c2 c3 c4 c5 c6 c7 c8 c9 c10 c11 c12 c13 c15
  go_enter Tryz.func27, Tryz.ntmps27
  go_wp2
  go_ret
  exact ⟨rfl, rfl⟩
set_option maxRecDepth 100000 in
set_option maxHeartbeats 8000000 in
theorem jump_go {BB A M : Nat} {mv : Value} (hW : Wd BB X A M mv st w) (hroot : rootOf st.d 1 = 1) (s : ByteArray) (hs : s.size ≤ 5000) (hne : s.data.toList ≠ []) (h8 : hops < 8) (hl : rest.length ≤ 500000) (hB : B ≤ w.heap.size) (h : At B b X st here rest must hops w) :
    Calls Tryz.prog 27 #[.pointer (some ⟨b, 0, none⟩), .string s] w fun e w' =>
      e = .returned (.int .i64 0) ∧ At B b X st (from_ s.data.toList here) (V.M.parts s.data.toList ++ rest) (must_ must rest s.data.toList) (hops + 1) w' ∧ Turn (fun k => k = b) w w' := by
  have hA := h
  obtain ⟨es, rv, H, hO, hS⟩ := h
  obtain ⟨c0, c1, c2, c3, c4, c5, c6, c7, c8, c9, c10, c11, c12, c13, c14, c15⟩ := H.facts
  obtain ⟨f0, f1, f2, f3, f4, f5, f6, f7, f8, f9, f10, f11, f12, f13, f14, f15⟩ := H.open
  have h8' : (((hops : Int)) == 8) = false := by simp; omega
  have hw : IntKind.i64.wrap ((hops : Int) + 1) = ((hops + 1 : Nat) : Int) := (wrap_id (by omega) (by omega)).trans (by omega)
  have ht := turn_set b 14 (.int .i64 ((hops + 1 : Nat) : Int)) w
  have hA2 : At B b X st here rest must (hops + 1) (w.setCell ⟨b, 14, none⟩ (.int .i64 ((hops + 1 : Nat) : Int))) := ⟨es, rv, H.hops _, T.own_kept hO (H.entKept ht), hS.kept (H.strKept ht)⟩
  have cl := lead_any (hA.wd hW ht) hroot s hs hl (Nat.le_trans hB ht.size) hA2
  have hne' : s.toList.isEmpty = false := by
    rw [ByteArray.toList_eq]
    cases hh : s.data.toList with
    | nil => exact absurd hh hne
    | cons x r => rfl
  have HT := Lib.hid ht
  clear H hO hS c0 c1 c2 c3 c4 c5 c6 c7 c8 c9 c10 c11 c12 c13 c15 f0 f1 f2 f3 f4 f5 f6 f7 f8 f9 f10 f11 f12 f13 f15 hA hA2 hW hne ht
  obtain ⟨z, hz⟩ : ∃ z, ((hops + 1 : Nat) : Int) = z := ⟨_, rfl⟩
  rw [hz] at hw cl HT
  clear hz
  generalize from_ s.data.toList here = h2 at *
  generalize V.M.parts s.data.toList ++ rest = r2 at *
  generalize must_ must rest s.data.toList = m2 at *
  go_enter Tryz.func27, Tryz.ntmps27
  go_wp2_with (go_at_call 21; refine cl.mono ?_; rintro e w2 ⟨rfl, hA2, ht2⟩)
  go_ret
  exact ⟨rfl, hA2, HT.out.trans ht2⟩
end
end Go.Proofs.YtlceaecibjbeaaaGreat.K
