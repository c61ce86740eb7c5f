/- The document's New and Feed of frames, walked; texts spoilt. -/
import Derived.Test.YtndinelljmjfaaaFrmF
namespace Go.Proofs.Ytndinelljmjfaaa
open Go.ChangeShapes Go.WideShapes Go.ChangeAt Go.RowKit K F12
set_option linter.unusedVariables false

theorem hd_split (most : Nat) : ∀ (s : List UInt8) (n i m k : Nat) (r : List UInt8), hd most s n i = .num m k r → ∃ p, s = p ++ r ∧ p.length + i = k
  | [], _, _, _, _, _, h => by cases h
  | c :: s, n, i, m, k, r, h => by
    unfold hd at h
    split at h
    · injection h with _ h2 h3
      subst h2; subst h3
      exact ⟨[c], rfl, by simp; omega⟩
    · split at h
      · cases h
      · split at h
        · cases h
        · obtain ⟨p, hp, hl⟩ := hd_split most s _ _ m k r h
          exact ⟨c :: p, by rw [hp]; rfl, by simp only [List.length_cons]; omega⟩
theorem hd_drop {most : Nat} {s : List UInt8} {m k : Nat} {r : List UInt8} (h : hd most s 0 0 = .num m k r) : s.drop k = r ∧ s.length = k + r.length := by
  obtain ⟨p, hp, hl⟩ := hd_split most s 0 0 m k r h
  rw [Nat.add_zero] at hl
  subst hl
  rw [hp]
  exact ⟨List.drop_left, by rw [List.length_append]⟩
theorem own_setk {w : World} {B : Nat} {e : TypeId} {n : Nat} {v : Value} {m : Nat} {xs : List Value} (h : w.ownsRow B e n v m xs) {k : Nat} {cs : Array Value} {T : TypeId} {fr : Nat × Nat} (hk : w.heap[k]? = some (.cells cs T fr)) (hT : T ≠ e) (i : Nat) (u : Value) : (w.setCell ⟨k, i, none⟩ u).ownsRow B e n v m xs := by
  refine ⟨h.1, ?_⟩
  rcases h.2 with hn | ⟨g, cap, cur, h1, h2, h3, h4⟩
  · exact .inl hn
  · refine .inr ⟨g, cap, cur, h1, h2, (Below.heap_setCell _ _ _ _ ?_).trans h3, h4⟩
    intro hgk
    have hgk' : g = k := hgk
    rw [hgk', hk] at h3
    injection h3 with h3
    injection h3 with _ h3
    exact hT h3
theorem alloc_in3 (w : World) (o : Obj) : Below w.heap.size w (w.alloc o) := (Below.refl _ _).alloc (Nat.le_refl _) _
theorem kp_grown2 {S : List Nat} {a b c : World} {row : Option Nat} (h : Kp S a b) (k : b.grownBy c row) (hr : ∀ j, row = some j → a.heap.size ≤ j) : Kp S a c :=
  ⟨k.os.trans h.os, k.tape.trans h.tape, k.output.trans h.output, Nat.le_trans h.size k.size, fun i hi hn => (k.block i (Nat.lt_of_lt_of_le hi h.size) (fun e => by have := hr i e.symm; omega)).trans (h.block i hi hn)⟩
theorem own_nek {w : World} {B : Nat} {T : TypeId} {n : Nat} {v : Value} {m : Nat} {xs : List Value} (hown : w.ownsRow B T n v m xs) {k : Nat} {cs : Array Value} {T' : TypeId} {fr : Nat × Nat} (hk : w.heap[k]? = some (.cells cs T' fr)) (hT : T' ≠ T) : some k ≠ v.ownBlock := by
  intro e
  rcases hown.2 with ⟨rfl, _⟩ | ⟨g, cap, cur, rfl, hB, hg, _⟩
  · simp [Value.ownBlock] at e
  · simp [Value.ownBlock] at e
    subst e
    rw [hk] at hg
    injection hg with hg
    injection hg with _ hg
    exact hT hg
theorem fin_q {w wf : World} {b : Nat} {v : Value} {outs : List (List UInt8)} (hb : b < w.heap.size) (O : OwnS wf w.heap.size 9 v outs) :
    ∃ ao cap, v = .slice ao outs.length cap ∧ RdS wf ao outs ∧ (∀ a, ao = some a → w.heap.size ≤ a.block ∧ a.block ∉ [b]) ∧ ((ao = none ∧ outs.length = 0 ∧ cap = 0) ∨ ∃ a, ao = some a) := by
  obtain ⟨ao, cap, hv, -, -, hr, hp⟩ := O.form
  refine ⟨ao, cap, hv, hr, fun a ha => ?_, ?_⟩
  · rcases hp with ⟨h0, _⟩ | ⟨g, h0, hg⟩
    · rw [h0] at ha; cases ha
    · rw [h0] at ha
      injection ha with ha
      subst ha
      refine ⟨hg, ?_⟩
      simp
      omega
  · rcases hp with ⟨h0, h1, h2⟩ | ⟨g, h0, hg⟩
    · exact .inl ⟨h0, h1, h2⟩
    · exact .inr ⟨_, h0⟩
theorem quiet_dr {P : Program} {f : FuncId} {args : Array Value} {w : World} {n : Nat} {v : Value}
    (h : Calls P f args (w.drewN n) fun e w' => e = .returned v ∧ Dr (w.drewN n) w') : Calls P f args (w.drewN n) fun e w'' => e = .returned v ∧ ∃ m, w'' = w.drewN m :=
  h.mono fun e w'' ⟨he, m, hm⟩ => ⟨he, n + m, by rw [hm]; unfold World.drewN; simp [Nat.add_assoc]⟩
end Go.Proofs.Ytndinelljmjfaaa
