/- A framer, plainly: what it holds, what it tells. Of no program. -/
import Derived.Test.YtndinelljmjfaaaDoorFrmQ
namespace Go.Proofs.YtndinelljmjfaaaDoor
open K
set_option linter.unusedVariables false
namespace F12
theorem le_sum {n : Nat} : ∀ {l : List Nat}, n ∈ l → n ≤ l.sum
  | a :: l, h => by
    rw [List.sum_cons]
    rcases List.mem_cons.1 h with rfl | h
    · omega
    · have := le_sum h; omega
/-- A framer: the most, what it holds (none: it is dead), how many chunks it dropped. -/
structure Fs where
  most : Nat
  s : Option (List UInt8)
  dr : Nat
def Fs.hold (x : Fs) : List UInt8 := x.s.getD []
def Fs.msg (x : Fs) (c : List UInt8) : List (List UInt8) := match x.s with | none => [] | some h => (feed x.most (h ++ c)).1
def Fs.nxt (x : Fs) (c : List UInt8) : Fs := match x.s with | none => ⟨x.most, none, x.dr + 1⟩ | some h => ⟨x.most, (feed x.most (h ++ c)).2, x.dr⟩
def Fs.code (x : Fs) (c : List UInt8) : Nat := if (x.nxt c).s.isNone then 120 else 0
theorem nxt_most (x : Fs) (c : List UInt8) : (x.nxt c).most = x.most := by unfold Fs.nxt; split <;> rfl
/-- What is told and held has no more bytes than the stream. -/
theorem feed_len (most : Nat) : ∀ (l : Nat) (s : List UInt8), s.length ≤ l → ((feed most s).1.map List.length).sum + (feed most s).1.length + ((feed most s).2.getD []).length ≤ s.length := by
  intro l
  induction l with
  | zero =>
    intro s hl
    obtain rfl : s = [] := List.length_eq_zero_iff.1 (by omega)
    rw [feed_nil]; simp
  | succ l ih =>
    intro s hl
    cases hh : hd most s 0 0 with
    | bad => rw [feed_bad hh]; simp
    | more => rw [feed_more hh]; simp
    | num n k r =>
      by_cases hn : n ≤ r.length
      · have hlt := drop_lt hh
        have hr := hd_rest most s 0 0 n k r hh
        have i := ih (r.drop n) (by omega)
        rw [feed_num hh hn]
        simp only [List.map_cons, List.sum_cons, List.length_cons, List.length_take]
        rw [List.length_drop] at i
        omega
      · rw [feed_short hh hn]; simp
theorem msg_len (x : Fs) (c : List UInt8) : (x.msg c).length ≤ x.hold.length + c.length ∧ (x.nxt c).hold.length ≤ x.hold.length + c.length ∧ ∀ m ∈ x.msg c, m.length ≤ x.hold.length + c.length := by
  unfold Fs.msg Fs.nxt Fs.hold
  cases x.s with
  | none => simp
  | some h =>
    have := feed_len x.most _ (h ++ c) (Nat.le_refl _)
    rw [List.length_append] at this
    simp only [Option.getD_some]
    refine ⟨by omega, by omega, fun m hm => ?_⟩
    have h1 : m.length ≤ ((feed x.most (h ++ c)).1.map List.length).sum := le_sum (List.mem_map.2 ⟨m, hm, rfl⟩)
    omega
/-- Fed one piece behind the other: what it told, and where it stands. -/
def fold (x : Fs) : List (List UInt8) → List (List UInt8) × Fs
  | [] => ([], x)
  | c :: cs => (x.msg c ++ (fold (x.nxt c) cs).1, (fold (x.nxt c) cs).2)
theorem fold_snoc (x : Fs) : ∀ (cs : List (List UInt8)) (c : List UInt8), fold x (cs ++ [c]) = ((fold x cs).1 ++ ((fold x cs).2).msg c, ((fold x cs).2).nxt c)
  | [], c => by simp [fold]
  | d :: cs, c => by
    simp only [List.cons_append, fold, fold_snoc (x.nxt d) cs c, List.append_assoc]
theorem fold_most (x : Fs) : ∀ (cs : List (List UInt8)), (fold x cs).2.most = x.most
  | [] => rfl
  | c :: cs => by simp only [fold]; rw [fold_most (x.nxt c) cs, nxt_most]
theorem fold_fed (m : Nat) : ∀ (cs : List (List UInt8)) (ms : List (List UInt8)) (o : Option (List UInt8)) (d : Nat), (ms ++ (fold ⟨m, o, d⟩ cs).1, (fold ⟨m, o, d⟩ cs).2.s) = fedL m cs (ms, o)
  | [], ms, o, d => by simp [fold, fedL]
  | c :: cs, ms, none, d => by
    have := fold_fed m cs ms none (d + 1)
    simpa [fold, fedL, Fs.msg, Fs.nxt] using this
  | c :: cs, ms, some h, d => by
    have := fold_fed m cs (ms ++ (feed m (h ++ c)).1) (feed m (h ++ c)).2 d
    simpa [fold, fedL, Fs.msg, Fs.nxt] using this
/-- HOWEVER IT IS CUT. -/
theorem fold_all (m : Nat) (cs : List (List UInt8)) : (fold ⟨m, some [], 0⟩ cs).1 = (feed m cs.flatten).1 ∧ (fold ⟨m, some [], 0⟩ cs).2.s = (feed m cs.flatten).2 := by
  have h1 := fold_fed m cs [] (some []) 0
  have h2 := fedL_all m cs []
  rw [feed_nil] at h2
  rw [h2] at h1
  simp only [List.nil_append] at h1
  exact ⟨congrArg Prod.fst h1, congrArg Prod.snd h1⟩
theorem fold_dr (x : Fs) : ∀ (cs : List (List UInt8)), (fold x cs).2.dr ≤ x.dr + cs.length
  | [] => by simp [fold]
  | c :: cs => by
    have ih := fold_dr (x.nxt c) cs
    have h : (x.nxt c).dr ≤ x.dr + 1 := by
      unfold Fs.nxt
      split <;> simp
    simp only [fold, List.length_cons]
    omega
theorem fold_len (x : Fs) : ∀ (cs : List (List UInt8)), (fold x cs).1.length + (fold x cs).2.hold.length ≤ x.hold.length + cs.flatten.length
  | [] => by simp [fold]
  | c :: cs => by
    have ih := fold_len (x.nxt c) cs
    have h : (x.msg c).length + (x.nxt c).hold.length ≤ x.hold.length + c.length := by
      unfold Fs.msg Fs.nxt Fs.hold
      cases x.s with
      | none => simp
      | some h =>
        have := feed_len x.most _ (h ++ c) (Nat.le_refl _)
        rw [List.length_append] at this
        simp only [Option.getD_some]
        omega
    simp only [fold, List.length_append, List.flatten_cons]
    omega
end F12
end Go.Proofs.YtndinelljmjfaaaDoor
