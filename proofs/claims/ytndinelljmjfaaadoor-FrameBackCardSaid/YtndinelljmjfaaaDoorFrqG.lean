/- The program's New, Dead, Dropped, Held, walked; what its calls are known to answer. -/
import Derived.Test.YtndinelljmjfaaaDoorFrqF
namespace Go.Proofs.YtndinelljmjfaaaDoor
open Go.ChangeShapes Go.WideShapes Go.ChangeAt Go.RowKit K F12
set_option linter.unusedVariables false

theorem new_walk (n : Nat) (w : World) (h1 : 1 ≤ n) (h2 : n ≤ 65535) : Calls Tryd.prog 5 #[.int .i64 (n : Nat)] w fun e w' => ∃ b S, e = .returned (.tuple #[.pointer (some ⟨b, 0, none⟩), .int .i64 0]) ∧ FrR w' b S ⟨n, some [], 0⟩ ∧ (∀ x ∈ S, w.heap.size ≤ x) ∧ Below w.heap.size w w' := by
  have e1 : ¬ ((n : Nat) : Int) < 1 := by omega
  have e2 : ¬ (65535 : Int) < ((n : Nat) : Int) := by omega
  go_enter Tryd.func5, Tryd.ntmps5
  go_wp2
  go_ret2
  refine ⟨w.heap.size, rfl, [w.heap.size], ⟨0, 0, 0, .slice none 0 0, [], rowNew w _, OwnY.nil _ _, rfl, h1, h2, fun e => (by cases e), fun h e => by injection e with e; subst e; exact ⟨.inl ⟨rfl, rfl, rfl, rfl, rfl⟩, by simp⟩⟩, fun x hx => by have := List.mem_singleton.1 hx; omega, (Below.refl _ _).alloc (Nat.le_refl _) _⟩
theorem new_walk_no (n : Int) (w : World) (h : n < 1 ∨ 65535 < n) : Calls Tryd.prog 5 #[.int .i64 n] w fun e w' => e = .returned (.tuple #[.pointer none, .int .i64 1]) ∧ Below w.heap.size w w' := by
  by_cases h1 : n < 1
  · clear h
    go_enter Tryd.func5, Tryd.ntmps5
    go_wp2
    go_ret2
    exact ⟨rfl, Below.refl _ _⟩
  · have h2 : 65535 < n := by omega
    clear h
    go_enter Tryd.func5, Tryd.ntmps5
    go_wp2
    go_ret2
    exact ⟨rfl, Below.refl _ _⟩
theorem dead_walk (w : World) (b : Nat) (S : List Nat) (st : Fs) (h : FrR w b S st) : Calls Tryd.prog 22 #[.pointer (some ⟨b, 0, none⟩)] w fun e w' => e = .returned (.bool st.s.isNone) ∧ Below w.heap.size w w' := by
  obtain ⟨wt, lg, ah, v, bt, h1, -⟩ := h
  obtain ⟨-, x1, -⟩ := h1.cells
  clear h1
  generalize st.s.isNone = d at *
  go_enter Tryd.func22, Tryd.ntmps22
  go_wp2
  go_ret
  exact ⟨rfl, Below.refl _ _⟩
theorem dropped_walk (w : World) (b : Nat) (S : List Nat) (st : Fs) (h : FrR w b S st) : Calls Tryd.prog 23 #[.pointer (some ⟨b, 0, none⟩)] w fun e w' => e = .returned (.int .i64 (st.dr : Nat)) ∧ Below w.heap.size w w' := by
  obtain ⟨wt, lg, ah, v, bt, h1, -⟩ := h
  obtain ⟨-, -, x2, -⟩ := h1.cells
  clear h1
  generalize st.dr = d at *
  go_enter Tryd.func23, Tryd.ntmps23
  go_wp2
  go_ret
  exact ⟨rfl, Below.refl _ _⟩
theorem fr_hold {st : Fs} {wt lg ah : Nat} {v : Value} {bt : List UInt8} (hd : st.s = none → wt = 0 ∧ lg = 0 ∧ ah = 0 ∧ v = .slice none 0 0 ∧ bt = []) (hs : ∀ h, st.s = some h → Ps st.most h wt lg ah bt ∧ h.length ≤ 1000000) : st.hold.length = ah + bt.length ∧ ah + bt.length ≤ 1000000 := by
  unfold Fs.hold
  cases e : st.s with
  | none =>
    obtain ⟨_, _, rfl, _, rfl⟩ := hd e
    simp
  | some h =>
    obtain ⟨p, q⟩ := hs h e
    have := p.len.1
    simp only [Option.getD_some]
    omega
theorem held_walk (w : World) (b : Nat) (S : List Nat) (st : Fs) (h : FrR w b S st) : Calls Tryd.prog 20 #[.pointer (some ⟨b, 0, none⟩)] w fun e w' => e = .returned (.int .i64 (st.hold.length : Nat)) ∧ Below w.heap.size w w' := by
  obtain ⟨wt, lg, ah, v, bt, h1, h2, -, -, -, hd, hs⟩ := h
  obtain ⟨e1, e2⟩ := fr_hold hd hs
  obtain ⟨ao, cap, rfl, -⟩ := h2.form
  obtain ⟨-, -, -, -, -, x5, x6⟩ := h1.cells
  have HE := Lib.hid (show ((st.hold.length : Nat) : Int) = ((ah : Nat) : Int) + ((bt.length : Nat) : Int) by rw [e1]; simp)
  rw [HE.out]
  have z1 : IntKind.i64.wrap (((ah : Nat) : Int) + ((bt.length : Nat) : Int)) = ((ah : Nat) : Int) + ((bt.length : Nat) : Int) := IntWalk.i64_in _ (by omega)
  clear h1 h2 hd hs e1
  go_enter Tryd.func20, Tryd.ntmps20
  go_wp2_with fail
  go_quiet (fail)
  go_wp2
  go_ret
  exact ⟨rfl, Below_drewT (Below.refl _ _) _⟩
theorem frm_okI (I : World → Prop) (hk : ∀ a b, I a → Below a.heap.size a b → I b) : FOk I FrR where
  keepI := hk
  keep := fun h k hn => fr_keep h k hn
  lt := fun h => fr_lt h
  new_ok := fun n w h1 h2 _ => new_walk n w h1 h2
  new_no := fun n w h _ => new_walk_no n w h
  feed := fun w b S st c _ h hl _ hdr => feed_walk b S st c w h hl hdr
  dead := dead_walk
  dropped := dropped_walk
  held := held_walk
end Go.Proofs.YtndinelljmjfaaaDoor
