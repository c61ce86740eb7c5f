/- The program's framer as a state: what keeps it, and what Feed's rounds leave. -/
import Derived.Test.YtndinelljmjfaaaDoorFrqB
import Derived.Test.YtndinelljmjfaaaDoorFrqD
namespace Go.Proofs.YtndinelljmjfaaaDoor
open Go.ChangeShapes Go.WideShapes Go.ChangeAt Go.RowKit K F12
set_option linter.unusedVariables false

/-- A framer of state st in block b, in these blocks. -/
def FrR (w : World) (b : Nat) (S : List Nat) (st : Fs) : Prop :=
  ∃ (wt lg ah : Nat) (v : Value) (bt : List UInt8), FrB w b st.most st.s.isNone st.dr wt lg ah v ∧ OwnY w 0 v bt ∧ S = b :: v.ownBlock.toList ∧ 1 ≤ st.most ∧ st.most ≤ 65535 ∧ (st.s = none → wt = 0 ∧ lg = 0 ∧ ah = 0 ∧ v = .slice none 0 0 ∧ bt = []) ∧ (∀ h, st.s = some h → Ps st.most h wt lg ah bt ∧ h.length ≤ 1000000)
theorem fr_lt {w : World} {b : Nat} {S : List Nat} {st : Fs} (h : FrR w b S st) : ∀ x ∈ S, x < w.heap.size := by
  obtain ⟨wt, lg, ah, v, bt, h1, h2, rfl, _⟩ := h
  intro x hx
  rcases List.mem_cons.1 hx with rfl | hx
  · exact lt_of_block h1
  · have := Option.mem_toList.1 hx
    exact (World.ownsRow.lt h2 x this).2
theorem fr_keep {w w' : World} {b : Nat} {S T : List Nat} {st : Fs} (h : FrR w b S st) (k : Kp T w w') (hn : ∀ x ∈ S, x ∉ T) : FrR w' b S st := by
  obtain ⟨wt, lg, ah, v, bt, h1, h2, rfl, h3⟩ := h
  refine ⟨wt, lg, ah, v, bt, h1.kp k (hn b (by simp)), h2.keep k (fun g hg => hn g (by rw [hg]; simp)), rfl, h3⟩
/-- A state of the loop: what has been told so far, and what is left. -/
def PdRel (b most dr : Nat) (s0 : List UInt8) (v0 : Value) (w : World) (g : Nat) (v1 v4 : Value) (wr : World) : Prop :=
  ∃ (c h : List UInt8) (wt lg ah : Nat) (v : Value) (bt : List UInt8) (outs : List (List UInt8)) (mv : Value), c.length = g ∧ v1 = .string (bs c) ∧ mv = v4 ∧ feed most s0 = (outs ++ (feed most (h ++ c)).1, (feed most (h ++ c)).2) ∧ outs.length + h.length + c.length ≤ s0.length ∧ Ps most h wt lg ah bt ∧ FrB wr b most false dr wt lg ah v ∧ OwnY wr 0 v bt ∧ OwnS wr w.heap.size 9 mv outs ∧ Kp (b :: v0.ownBlock.toList) w wr ∧ (∀ g, v.ownBlock = some g → v0.ownBlock = some g ∨ w.heap.size ≤ g)
theorem ownS_ne {w : World} {B : Nat} {v : Value} {ls : List (List UInt8)} (h : OwnS w B 9 v ls) {u : Value} {bt : List UInt8} (o : OwnY w 0 u bt) : ∀ g, v.ownBlock = some g → u.ownBlock ≠ some g := by
  intro g hg hu
  rcases h.2 with ⟨rfl, _⟩ | ⟨g1, cap, cur, rfl, hB, h1, _⟩
  · simp [Value.ownBlock] at hg
  · simp [Value.ownBlock] at hg
    subst hg
    exact o.ne h1 (by decide) hu.symm
/-- The end, a framer that lives or is dead. -/
theorem fd_end {w wf : World} {b : Nat} {v0 : Value} {st st2 : Fs} {c : List UInt8} {outs : List (List UInt8)} {cd : Nat} {mv v : Value} {bt : List UInt8} (hb : b < w.heap.size) (e1 : st.msg c = outs) (e2 : st.code c = cd) (e3 : st.nxt c = st2) {wt lg ah : Nat}
    (F : FrB wf b st2.most st2.s.isNone st2.dr wt lg ah v) (O : OwnY wf 0 v bt) (hm1 : 1 ≤ st2.most) (hm2 : st2.most ≤ 65535) (hd : st2.s = none → wt = 0 ∧ lg = 0 ∧ ah = 0 ∧ v = .slice none 0 0 ∧ bt = []) (hl : ∀ h, st2.s = some h → Ps st2.most h wt lg ah bt ∧ h.length ≤ 1000000)
    (hv : ∀ g, v.ownBlock = some g → v0.ownBlock = some g ∨ w.heap.size ≤ g) (k : Kp (b :: v0.ownBlock.toList) w wf) (M : OwnS wf w.heap.size 9 mv outs) :
    FdPost FrR w b (b :: v0.ownBlock.toList) st c (.returned (.tuple #[mv, .int .i64 (cd : Nat)])) wf := by
  obtain ⟨ao, cap, hmv, -, -, hr, hp⟩ := M.form
  subst e1 e2 e3
  subst hmv
  refine ⟨ao, cap, b :: v.ownBlock.toList, rfl, ⟨wt, lg, ah, v, bt, F, O, rfl, hm1, hm2, hd, hl⟩, ?_, hr, ?_, ?_, k, M⟩
  · intro x hx
    rcases List.mem_cons.1 hx with rfl | hx
    · exact .inl (by simp)
    · rcases hv x (Option.mem_toList.1 hx) with h | h
      · exact .inl (by rw [h]; simp)
      · exact .inr h
  · intro a ha
    rcases hp with ⟨h0, _⟩ | ⟨g, h0, hg⟩
    · rw [h0] at ha; cases ha
    · rw [h0] at ha
      injection ha with ha
      subst ha
      refine ⟨hg, fun hm => ?_⟩
      rcases List.mem_cons.1 hm with h | h
      · have : g = b := h
        omega
      · exact ownS_ne M O g (by rw [h0]; rfl) (Option.mem_toList.1 h)
  · rcases hp with ⟨h0, h1, h2⟩ | ⟨g, h0, hg⟩
    · exact .inl ⟨h0, h1, h2⟩
    · exact .inr ⟨_, h0⟩
end Go.Proofs.YtndinelljmjfaaaDoor
