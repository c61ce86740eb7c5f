/- Texts on the program and on the document, joined: Prt, BerC, Stk. -/
import Derived.Test.YtkmfcnilbmckmaaGreatDoorMa03
import Derived.Test.YtkmfcnilbmckmaaGreatDoorMa28
import Derived.Test.YtkmfcnilbmckmaaGreatDoorMa01
import Derived.Below
import Derived.Laws.OwnMore
import Derived.Laws.AppendOwn
/- Elements one behind the other, as a list: plain mathematics, of no program. -/
namespace Go.Proofs.YtkmfcnilbmckmaaGreatDoor
open Go.RowKit K P1 B5
set_option linter.unusedVariables false

/-- The elements one behind the other, so many of them ahead; or what is wrong first: 50, 2. -/
def prts : Nat → Nat → List UInt8 → Except Nat (List (Nat × List UInt8))
  | 0, _, l => if l.isEmpty then .ok [] else .error 50
  | k + 1, c, l =>
    if l.isEmpty then .ok []
    else if nxOk l = false then .error 50
    else if c = 4096 then .error 2
    else match prts k (c + 1) (nxR l) with
      | .error e => .error e
      | .ok r => .ok ((nxT l, nxB l) :: r)
theorem prts_nil (k c : Nat) : prts k c [] = .ok [] := by cases k <;> rfl
theorem prts_more : ∀ (n k m c : Nat) (l : List UInt8), l.length ≤ n → l.length ≤ k → l.length ≤ m → prts k c l = prts m c l
  | 0, k, m, c, l, hn, _, _ => by
    obtain rfl : l = [] := List.length_eq_zero_iff.1 (by omega)
    rw [prts_nil, prts_nil]
  | n + 1, k, m, c, l, hn, hk, hm => by
    by_cases h : l = []
    · subst h; rw [prts_nil, prts_nil]
    · have hp := List.length_pos_iff.2 h
      obtain ⟨k, rfl⟩ : ∃ j, k = j + 1 := ⟨k - 1, by omega⟩
      obtain ⟨m, rfl⟩ : ∃ j, m = j + 1 := ⟨m - 1, by omega⟩
      unfold prts
      by_cases hx : nxOk l = true
      · obtain ⟨_, _, _, _, h5⟩ := nx_of hx
        rw [prts_more n k m (c + 1) (nxR l) (by omega) (by omega) (by omega)]
      · rw [Bool.not_eq_true] at hx
        rw [if_pos hx, if_pos hx]
def prt (c : Nat) (l : List UInt8) : Except Nat (List (Nat × List UInt8)) := prts l.length c l
theorem prt_step {l : List UInt8} (h : l ≠ []) (c : Nat) : prt c l =
    if nxOk l = false then .error 50
    else if c = 4096 then .error 2
    else match prt (c + 1) (nxR l) with
      | .error e => .error e
      | .ok r => .ok ((nxT l, nxB l) :: r) := by
  have hp := List.length_pos_iff.2 h
  obtain ⟨k, hk⟩ : ∃ k, l.length = k + 1 := ⟨l.length - 1, by omega⟩
  have he : l.isEmpty = false := List.isEmpty_eq_false_iff.2 h
  unfold prt
  rw [hk]
  conv => lhs; unfold prts
  rw [he]
  by_cases hx : nxOk l = true
  · obtain ⟨_, _, _, _, h5⟩ := nx_of hx
    rw [prts_more k k (nxR l).length (c + 1) (nxR l) (by omega) (by omega) (Nat.le_refl _)]
    rfl
  · rw [Bool.not_eq_true] at hx
    rw [if_pos hx, if_pos hx]; rfl
/-- Elements ahead of what is told. -/
def ahd (ps : List (Nat × List UInt8)) (x : Except Nat (List (Nat × List UInt8))) : Except Nat (List (Nat × List UInt8)) :=
  match x with
  | .error e => .error e
  | .ok r => .ok (ps ++ r)
theorem ahd_nil (x : Except Nat (List (Nat × List UInt8))) : ahd [] x = x := by cases x <;> rfl
theorem ahd_bad (ps : List (Nat × List UInt8)) {l : List UInt8} (h : l ≠ []) (hx : nxOk l = false) : ahd ps (prt ps.length l) = .error 50 := by
  rw [prt_step h, if_pos hx]; rfl
theorem ahd_many (ps : List (Nat × List UInt8)) {l : List UInt8} (hx : nxOk l = true) (hc : ps.length = 4096) : ahd ps (prt ps.length l) = .error 2 := by
  rw [prt_step (nxOk_ne hx), if_neg (by rw [hx]; simp), if_pos hc]; rfl
theorem ahd_one (ps : List (Nat × List UInt8)) {l : List UInt8} (hx : nxOk l = true) (hc : ¬ ps.length = 4096) : ahd ps (prt ps.length l) = ahd (ps ++ [(nxT l, nxB l)]) (prt (ps ++ [(nxT l, nxB l)]).length (nxR l)) := by
  rw [prt_step (nxOk_ne hx), if_neg (by rw [hx]; simp), if_neg hc, List.length_append]
  show ahd ps (match prt (ps.length + 1) (nxR l) with | .error e => .error e | .ok r => .ok ((nxT l, nxB l) :: r)) = ahd (ps ++ [(nxT l, nxB l)]) (prt (ps.length + 1) (nxR l))
  cases prt (ps.length + 1) (nxR l) with
  | error e => rfl
  | ok r => simp [ahd]
/-- Elements that are put one behind the other. -/
theorem prt_puts : ∀ (ps : List (Nat × List UInt8)) (c : Nat), (∀ p ∈ ps, isTag p.1 = true ∧ p.1 < 256 ∧ p.2.length < 4294967296) → c + ps.length ≤ 4096 → prt c (ps.flatMap fun p => put p.1 p.2) = .ok ps
  | [], c, _, _ => rfl
  | p :: ps, c, h, hc => by
    obtain ⟨h1, h2, h3⟩ := h p (by simp)
    obtain ⟨x1, x2, x3, x4⟩ := nx_put p.1 p.2 (ps.flatMap fun p => put p.1 p.2) h1 h2 h3
    rw [List.length_cons] at hc
    rw [List.flatMap_cons, prt_step (put_ne _ _ _), x1, x2, x3, x4, if_neg (by simp), if_neg (by omega), prt_puts ps (c + 1) (fun q hq => h q (by simp [hq])) (by omega)]
end Go.Proofs.YtkmfcnilbmckmaaGreatDoor
/- ber.Parts, walked; what it tells, plain. -/
namespace Go.Proofs.YtkmfcnilbmckmaaGreatDoor
open Go.ChangeShapes Go.WideShapes Go.ChangeAt Go.RowKit K P1 B5
set_option linter.unusedVariables false

def PaPost (l : List UInt8) (w : World) (e : Ending) (w' : World) : Prop :=
  (∃ c : Nat, prt 0 l = .error c ∧ e = .returned (.tuple #[.slice none 0 0, .int .i64 (c : Nat)]) ∧ Below w.heap.size w w') ∨
  (∃ ps v, prt 0 l = .ok ps ∧ e = .returned (.tuple #[v, .int .i64 0]) ∧ OwnP w' w.heap.size 29 v ps ∧ Below w.heap.size w w')
theorem part_infoC : (Tryz.prog.info? 29).map (fun i => (i.zero, i.size, i.bytes)) = some (some (.agg #[.int .i64 0, .string .empty]), 2, 24) := by kernel_rfl
def PaRel (l : List UInt8) (w : World) (g : Nat) (v0 v4 : Value) (wr : World) : Prop :=
  ∃ s ps, s.length ≤ g ∧ s.length ≤ l.length ∧ v0 = .string (bs s) ∧ OwnP wr w.heap.size 29 v4 ps ∧ ps.length ≤ 4096 ∧ prt 0 l = ahd ps (prt ps.length s) ∧ Below w.heap.size w wr
theorem nxQ_ok {s : List UInt8} (h : nxOk s = true) : nxQ s = (nxT s, nxB s, nxR s) ∧ nxE s = 0 := by unfold nxQ nxE; rw [h]; exact ⟨rfl, rfl⟩
theorem nxQ_no {s : List UInt8} (h : nxOk s = false) : nxQ s = (0, [], []) ∧ nxE s = 50 := by unfold nxQ nxE; rw [h]; exact ⟨rfl, rfl⟩
theorem next_ok (s : List UInt8) (hs : s.length ≤ 140737488351232) (h : nxOk s = true) (w : World) :
    Calls Tryz.prog 16 #[.string (bs s)] w fun e w' => e = .returned (.tuple #[.agg #[.int .i64 (nxT s : Nat), .string (bs (nxB s))], .string (bs (nxR s)), .int .i64 0]) ∧ Below w.heap.size w w' := by
  have := next_walk s hs w
  rw [(nxQ_ok h).1, (nxQ_ok h).2] at this
  exact this
theorem next_no (s : List UInt8) (hs : s.length ≤ 140737488351232) (h : nxOk s = false) (w : World) :
    Calls Tryz.prog 16 #[.string (bs s)] w fun e w' => e = .returned (.tuple #[.agg #[.int .i64 0, .string (bs [])], .string (bs []), .int .i64 50]) ∧ Below w.heap.size w w' := by
  have := next_walk s hs w
  rw [(nxQ_no h).1, (nxQ_no h).2] at this
  exact this
end Go.Proofs.YtkmfcnilbmckmaaGreatDoor
/- A list of texts that a call made itself, in a block that is known: cells, a shorter slice of it, a member that is turned. Of no program. -/
namespace Go.Proofs.YtkmfcnilbmckmaaGreatDoor
open Go.RowKit
namespace K

def strs (ss : List (List UInt8)) : List Value := ss.map fun s => Value.string (bs s)
theorem strs_len (ss : List (List UInt8)) : (strs ss).length = ss.length := by simp [strs]
theorem strs_app (a b : List (List UInt8)) : strs (a ++ b) = strs a ++ strs b := by simp [strs]
/-- Block g, behind B, begins with these texts; T is the type of its elements. -/
def StkAt (w : World) (B : Nat) (T : TypeId) (g cap : Nat) (ss : List (List UInt8)) : Prop :=
  B ≤ g ∧ ss.length ≤ cap ∧ cap ≤ maxLen ∧ ∃ C, w.heap[g]? = some (.cells C T (0, 0)) ∧ C.size = cap ∧ C.toList.take ss.length = strs ss
section
variable {w w' : World} {B : Nat} {T : TypeId} {g cap : Nat} {ss : List (List UInt8)}
theorem StkAt.lt (h : StkAt w B T g cap ss) : g < w.heap.size := by
  obtain ⟨_, _, _, C, hC, _⟩ := h
  exact lt_of_block hC
theorem StkAt.cell (h : StkAt w B T g cap ss) (i : Nat) (hi : i < ss.length) : w.cell? ⟨g, i, none⟩ = some (.string (bs (ss.getD i []))) := by
  obtain ⟨_, _, _, C, hC, _, ht⟩ := h
  rw [cellRow hC, ← Array.getElem?_toList]
  have h1 := congrArg (fun x : List Value => x[i]?) ht
  rw [List.getElem?_take_of_lt hi] at h1
  rw [h1]
  simp [strs, List.getD, List.getElem?_eq_getElem hi]
theorem StkAt.free (h : StkAt w B T g cap ss) (i : Nat) : w.frozen? ⟨g, i, none⟩ = false := by
  obtain ⟨_, _, _, C, hC, _⟩ := h
  exact freeRow hC i
theorem StkAt.below (h : StkAt w B T g cap ss) (k : Below w.heap.size w w') : StkAt w' B T g cap ss := by
  obtain ⟨h1, h2, h3, C, hC, h4⟩ := h
  exact ⟨h1, h2, h3, C, (k.block g (lt_of_block hC)).trans hC, h4⟩
theorem StkAt.cut {a b : List (List UInt8)} (h : StkAt w B T g cap (a ++ b)) : StkAt w B T g cap a := by
  obtain ⟨h1, h2, h3, C, hC, h4, h5⟩ := h
  rw [List.length_append] at h2
  refine ⟨h1, by omega, h3, C, hC, h4, ?_⟩
  have h6 := congrArg (List.take a.length) h5
  rw [List.take_take, List.length_append, Nat.min_eq_left (by omega), strs_app, List.take_append_of_le_length (by rw [strs_len]; omega), List.take_of_length_le (l := strs a) (by rw [strs_len]; omega)] at h6
  exact h6
theorem StkAt.set (h : StkAt w B T g cap ss) (i : Nat) (s : List UInt8) : StkAt (w.setCell ⟨g, i, none⟩ (.string (bs s))) B T g cap (ss.set i s) := by
  obtain ⟨h1, h2, h3, C, hC, h4, h5⟩ := h
  refine ⟨h1, by rw [List.length_set]; exact h2, h3, _, rowSet hC i _, by rw [Array.size_setIfInBounds]; exact h4, ?_⟩
  rw [Array.toList_setIfInBounds, List.length_set, List.take_set, h5]
  unfold strs
  rw [List.map_set]
theorem StkAt.own (h : StkAt w B T g cap ss) : w.ownsRow B T 1 (.slice (some ⟨g, 0, none⟩) ss.length cap) ss.length (strs ss) := by
  obtain ⟨h1, h2, h3, C, hC, h4, h5⟩ := h
  exact ⟨by rw [strs_len]; omega, .inr ⟨g, cap, C, rfl, h1, hC, h2, h3, by omega, by rw [Nat.mul_one]; exact h5⟩⟩
theorem StkAt.ofOwn {v : Value} {n : Nat} (hn : n = ss.length) (h0 : 0 < ss.length) (h : w.ownsRow B T 1 v n (strs ss)) : ∃ g cap, v = .slice (some ⟨g, 0, none⟩) ss.length cap ∧ StkAt w B T g cap ss := by
  subst hn
  rcases h.2 with ⟨_, hz⟩ | ⟨g, cap, C, hv, h1, hC, h2, h3, h4, h5⟩
  · omega
  · exact ⟨g, cap, hv, h1, h2, h3, C, hC, by omega, by rw [Nat.mul_one] at h5; exact h5⟩
theorem StkAt.new (w : World) (B : Nat) (T : TypeId) (s : List UInt8) (hB : B ≤ w.heap.size) : StkAt (w.alloc (.cells #[.string (bs s)] T)) B T w.heap.size 1 [s] :=
  ⟨hB, Nat.le_refl _, by unfold maxLen; omega, _, rowNew w _, rfl, rfl⟩
end
end K
end Go.Proofs.YtkmfcnilbmckmaaGreatDoor
