/- LexBlanks: what its two files are split into. -/
import Derived.Test.YtkobjbmjefkmgaaDoorLexW
namespace Go.Proofs.YtkobjbmjefkmgaaDoor
open Go.ChangeShapes Go.WideShapes Go.ChangeAt Go.RowKit K L14
set_option linter.unusedVariables false

theorem itA_len (ls : List (List UInt8)) (i : Nat) : (itA ls i).length = i := by simp [itA]
theorem itB_len (ls : List (List UInt8)) (n : Nat) (ns : Nat → Int) (i : Nat) : (itB ls n ns i).length = i := by simp [itB]
theorem bk_split (ls : List (List UInt8)) (n : Nat) (ns : Nat → Int) (hN : ls.length ≤ 100) :
    split 4096 1 (blk (itA ls ls.length)) = .ok (blT 1 (itA ls ls.length)) ∧ split 4096 1 (bnk 4 ++ blk (itB ls n ns ls.length)) = .ok (blT 3 (itB ls n ns ls.length)) := by
  refine blanks_split _ _ (fun x hx => ?_) (fun x hx => ?_) (by rw [itA_len]; omega) (by rw [itB_len]; omega)
  · unfold itA at hx
    obtain ⟨j, _, rfl⟩ := List.mem_map.1 hx
    rfl
  · unfold itB at hx
    obtain ⟨j, _, rfl⟩ := List.mem_map.1 hx
    exact ⟨_, rfl⟩
theorem getD_mem {α : Type} {l : List α} {i : Nat} (d : α) (h : i < l.length) : l.getD i d ∈ l := by
  rw [List.getD_eq_getElem?_getD, List.getElem?_eq_getElem h]
  exact List.getElem_mem h
theorem bk_facts (ls : List (List UInt8)) (n : Nat) (ns : Nat → Int) :
    (blT 1 (itA ls ls.length)).length = 2 * ls.length ∧ (blT 3 (itB ls n ns ls.length)).length = 2 * ls.length ∧ kt (tq (blT 1 (itA ls ls.length))) = kt (tq (blT 3 (itB ls n ns ls.length))) ∧
    (∀ i, i < 2 * ls.length → ((blT 1 (itA ls ls.length)).getD i noT).l = 1) ∧
    (∀ i, i < 2 * ls.length → 3 ≤ ((blT 3 (itB ls n ns ls.length)).getD i noT).l ∧ ((blT 3 (itB ls n ns ls.length)).getD i noT).l ≤ 1 + nls (bnk 4 ++ blk (itB ls n ns ls.length))) ∧
    (∀ i, i + 1 < 2 * ls.length → ((blT 3 (itB ls n ns ls.length)).getD i noT).l ≤ ((blT 3 (itB ls n ns ls.length)).getD (i + 1) noT).l) ∧
    (∀ j, j < ls.length → ((blT 1 (itA ls ls.length)).getD (2 * j) noT).k = 4 ∧ ((blT 1 (itA ls ls.length)).getD (2 * j) noT).t = (ls.getD j []).take 50) := by
  have h1 : (blT 1 (itA ls ls.length)).length = 2 * ls.length := by rw [blT_len, itA_len]
  have h2 : (blT 3 (itB ls n ns ls.length)).length = 2 * ls.length := by rw [blT_len, itB_len]
  refine ⟨h1, h2, ?_, fun i hi => ?_, fun i hi => ⟨?_, ?_⟩, fun i hi => ?_, fun j hj => ?_⟩
  · rw [kt_tq, kt_tq, bare_blT (itA ls ls.length) (itB ls n ns ls.length) 1 3 (by simp [itA, itB])]
  · refine blT_flat (itA ls ls.length) 1 (fun x hx => ?_) _ (getD_mem noT (by rw [h1]; exact hi))
    unfold itA at hx
    obtain ⟨j, _, rfl⟩ := List.mem_map.1 hx
    rfl
  · exact blT_low _ 3 _ (getD_mem noT (by rw [h2]; exact hi))
  · have := blT_high (itB ls n ns ls.length) 3 _ (getD_mem noT (by rw [h2]; exact hi))
    have e : nls (bnk 4 ++ blk (itB ls n ns ls.length)) = 2 + nls (blk (itB ls n ns ls.length)) := by rw [nls_app]; rfl
    omega
  · exact blT_rise _ 3 i noT (by rw [h2]; exact hi)
  · have := blT_at (itA ls ls.length) 1 j noT ([], []) (by rw [itA_len]; exact hj)
    refine ⟨this.1, this.2.trans ?_⟩
    simp [itA, List.getD, hj]
end Go.Proofs.YtkobjbmjefkmgaaDoor
