/- Texts on the program and on the document, joined: ParZ. -/
import Derived.Test.YtaeglmgpoboihaaGreatDoorMa13
/- A reader of tokens on two lists: what it makes of one it makes of the other. Plain mathematics, of no program. -/
namespace Go.Proofs.YtaeglmgpoboihaaGreatDoor
open K L15 S3
open L14 (Tk)
set_option linter.unusedVariables false
set_option linter.unusedSimpArgs false
namespace L15
/-- Two readers in step, as long as the first one is not doomed. -/
structure Sim (D : Pi → Prop) (R : Pi → Pi → Prop) (T T' : List Tk) (l l' : Nat) : Prop where
  see : ∀ s s', R s s' → D s ∨ ((∀ k t, at_ T' s' k t = at_ T s k t) ∧ txt T' s' = txt T s ∧ s'.bad.isNone = s.bad.isNone)
  nx : ∀ s s' k t, R s s' → at_ T s k t = true → R (nx s) (nx s')
  fail : ∀ s s', R s s' → D (fail T l s) ∨ R (fail T l s) (fail T' l' s')
  dnx : ∀ s, D s → D (L15.nx s)
  dfail : ∀ s, D s → D (L15.fail T l s)
  len : T.length ≤ T'.length
def Rl {α : Type} (D : Pi → Prop) (R : Pi → Pi → Prop) (f f' : Pi → α × Pi) : Prop :=
  (∀ s, D s → D (f s).2) ∧ ∀ s s', R s s' → D (f s).2 ∨ ((f' s').1 = (f s).1 ∧ R (f s).2 (f' s').2)
section
variable {D : Pi → Prop} {R : Pi → Pi → Prop} {T T' : List Tk} {l l' : Nat} {α β : Type}
theorem Rl.pure (a : α) : Rl D R (fun s => (a, s)) (fun s => (a, s)) := ⟨fun s h => h, fun s s' h => .inr ⟨rfl, h⟩⟩
theorem Rl.bind {f f' : Pi → α × Pi} {g g' : α → Pi → β × Pi} (hf : Rl D R f f') (hg : ∀ a, Rl D R (g a) (g' a)) : Rl D R (fun s => g (f s).1 (f s).2) (fun s => g' (f' s).1 (f' s).2) :=
  ⟨fun s h => (hg _).1 _ (hf.1 s h), fun s s' h => by
    rcases hf.2 s s' h with h1 | ⟨h1, h2⟩
    · exact .inl ((hg _).1 _ h1)
    · show D (g (f s).1 (f s).2).2 ∨ ((g' (f' s').1 (f' s').2).1 = (g (f s).1 (f s).2).1 ∧ R (g (f s).1 (f s).2).2 (g' (f' s').1 (f' s').2).2)
      rw [h1]
      exact (hg _).2 _ _ h2⟩
theorem Rl.map {f f' : Pi → α × Pi} (hf : Rl D R f f') (h : α → β) : Rl D R (fun s => (h (f s).1, (f s).2)) (fun s => (h (f' s).1, (f' s).2)) :=
  Rl.bind hf fun a => Rl.pure (h a)
theorem Rl.fail (S : Sim D R T T' l l') (a : α) : Rl D R (fun s => (a, L15.fail T l s)) (fun s => (a, L15.fail T' l' s)) :=
  ⟨fun s h => S.dfail s h, fun s s' h => (S.fail s s' h).imp id fun h => ⟨rfl, h⟩⟩
/-- A test of the token that stands here. -/
theorem Rl.iteAt (S : Sim D R T T' l l') (k : Nat) (t : List UInt8) {f f' g g' : Pi → α × Pi} (hf : Rl D R f f') (hg : Rl D R g g') : Rl D R (fun s => if at_ T s k t = true then f s else g s) (fun s => if at_ T' s k t = true then f' s else g' s) := by
  refine ⟨fun s h => ?_, fun s s' h => ?_⟩
  · show D (if at_ T s k t = true then f s else g s).2
    split
    · exact hf.1 s h
    · exact hg.1 s h
  · show D (if at_ T s k t = true then f s else g s).2 ∨ ((if at_ T' s' k t = true then f' s' else g' s').1 = (if at_ T s k t = true then f s else g s).1 ∧ R (if at_ T s k t = true then f s else g s).2 (if at_ T' s' k t = true then f' s' else g' s').2)
    rcases S.see s s' h with hd | ⟨ha, -, -⟩
    · left
      split
      · exact hf.1 s hd
      · exact hg.1 s hd
    · rw [ha]
      split
      · exact hf.2 s s' h
      · exact hg.2 s s' h
/-- A test that takes the token. -/
theorem Rl.atNx (S : Sim D R T T' l l') (k : Nat) (t : List UInt8) {f f' g g' : Pi → α × Pi} (hf : Rl D R f f') (hg : Rl D R g g') : Rl D R (fun s => if at_ T s k t = true then f (nx s) else g s) (fun s => if at_ T' s k t = true then f' (nx s) else g' s) := by
  refine ⟨fun s h => ?_, fun s s' h => ?_⟩
  · show D (if at_ T s k t = true then f (nx s) else g s).2
    split
    · exact hf.1 _ (S.dnx s h)
    · exact hg.1 s h
  · show D (if at_ T s k t = true then f (nx s) else g s).2 ∨ ((if at_ T' s' k t = true then f' (nx s') else g' s').1 = (if at_ T s k t = true then f (nx s) else g s).1 ∧ R (if at_ T s k t = true then f (nx s) else g s).2 (if at_ T' s' k t = true then f' (nx s') else g' s').2)
    rcases S.see s s' h with hd | ⟨ha, -, -⟩
    · left
      split
      · exact hf.1 _ (S.dnx s hd)
      · exact hg.1 s hd
    · rw [ha]
      split
      · next h1 => exact hf.2 _ _ (S.nx s s' k t h h1)
      · exact hg.2 s s' h
/-- A token that is taken if it is right, with what it tells. -/
theorem Rl.tok (S : Sim D R T T' l l') (k : Nat) (t : List UInt8) (c : List UInt8 → Bool) (v : List UInt8 → α) (w : α) : Rl D R (fun s => if at_ T s k t && c (txt T s) then (v (txt T s), nx s) else (w, L15.fail T l s)) (fun s => if at_ T' s k t && c (txt T' s) then (v (txt T' s), nx s) else (w, L15.fail T' l' s)) := by
  refine ⟨fun s h => ?_, fun s s' h => ?_⟩
  · show D (if at_ T s k t && c (txt T s) then (v (txt T s), nx s) else (w, L15.fail T l s)).2
    split
    · exact S.dnx s h
    · exact S.dfail s h
  · show D (if at_ T s k t && c (txt T s) then (v (txt T s), nx s) else (w, L15.fail T l s)).2 ∨ ((if at_ T' s' k t && c (txt T' s') then (v (txt T' s'), nx s') else (w, L15.fail T' l' s')).1 = (if at_ T s k t && c (txt T s) then (v (txt T s), nx s) else (w, L15.fail T l s)).1 ∧ R (if at_ T s k t && c (txt T s) then (v (txt T s), nx s) else (w, L15.fail T l s)).2 (if at_ T' s' k t && c (txt T' s') then (v (txt T' s'), nx s') else (w, L15.fail T' l' s')).2)
    rcases S.see s s' h with hd | ⟨ha, hx, -⟩
    · left
      split
      · exact S.dnx s hd
      · exact S.dfail s hd
    · rw [ha, hx]
      split
      · next h1 =>
        rw [Bool.and_eq_true] at h1
        exact .inr ⟨rfl, S.nx s s' k t h h1.1⟩
      · exact (S.fail s s' h).imp id fun h => ⟨rfl, h⟩
theorem rl_take (S : Sim D R T T' l l') (k : Nat) (t : List UInt8) : Rl D R (L15.take T l k t) (L15.take T' l' k t) := by
  have := Rl.tok S k t (fun _ => true) id ([] : List UInt8)
  have e : ∀ (T : List Tk) (l : Nat), (fun s => if at_ T s k t && true then (id (txt T s), nx s) else (([] : List UInt8), L15.fail T l s)) = L15.take T l k t := fun T l => by
    funext s; unfold L15.take; rw [Bool.and_true]; rfl
  rw [e, e] at this
  exact this
theorem rl_sign (S : Sim D R T T' l l') (t : List UInt8) : Rl D R (fun s => ((), sign T l t s)) (fun s => ((), sign T' l' t s)) := (rl_take S 5 t).map fun _ => ()
theorem rl_text (S : Sim D R T T' l l') : Rl D R (L15.text T l) (L15.text T' l') := rl_take S 4 []
theorem rl_number (S : Sim D R T T' l l') : Rl D R (number T l) (number T' l') := Rl.tok S 2 [] numOk numI 0
theorem rl_span (S : Sim D R T T' l l') : Rl D R (span T l) (span T' l') := Rl.tok S 2 [] (fun x => decide (spC x = 0)) spV 0
/-- What is behind a sign. -/
theorem Rl.then {f f' : Pi → α × Pi} (hf : Rl D R f f') (S : Sim D R T T' l l') (t : List UInt8) : Rl D R (fun s => ((f s).1, sign T l t (f s).2)) (fun s => ((f' s).1, sign T' l' t (f' s).2)) :=
  Rl.bind hf fun a => (rl_sign S t).map fun _ => a
theorem rl_els (S : Sim D R T T' l l') : Rl D R (els T l) (els T' l') := by
  have := Rl.atNx S 1 wElse ((rl_text S).then S [59]) (Rl.pure (D := D) (R := R) ([] : List UInt8))
  have e : ∀ (T : List Tk) (l : Nat), (fun s => if at_ T s 1 wElse = true then ((L15.text T l (nx s)).1, sign T l [59] (L15.text T l (nx s)).2) else ([], s)) = els T l := fun T l => by
    funext s; unfold els word; split <;> rfl
  rw [← e, ← e]
  exact this
theorem rl_piece (S : Sim D R T T' l l') : Rl D R (piece T l) (piece T' l') := by
  have h1 := (rl_text S).map fun x => (⟨1, x, []⟩ : Pc)
  have h2 := (rl_take S 3 []).map fun x => (⟨2, x, []⟩ : Pc)
  have h3 : Rl D R (fun s => ((⟨3, (L15.take T l 3 [] (sign T l [40] (L15.take T l 1 [] s).2)).1, (L15.take T l 1 [] s).1⟩ : Pc), sign T l [41] (L15.take T l 3 [] (sign T l [40] (L15.take T l 1 [] s).2)).2)) (fun s => ((⟨3, (L15.take T' l' 3 [] (sign T' l' [40] (L15.take T' l' 1 [] s).2)).1, (L15.take T' l' 1 [] s).1⟩ : Pc), sign T' l' [41] (L15.take T' l' 3 [] (sign T' l' [40] (L15.take T' l' 1 [] s).2)).2)) :=
    Rl.bind ((rl_take S 1 []).then S [40]) fun a => ((rl_take S 3 []).then S [41]).map fun x => (⟨3, x, a⟩ : Pc)
  have := Rl.iteAt S 4 [] h1 (Rl.iteAt S 3 [] h2 h3)
  exact this
theorem rl_liked (S : Sim D R T T' l l') : Rl D R (fun s => ((), liked T l s)) (fun s => ((), liked T' l' s)) := by
  have := Rl.atNx S 1 wUnlike (Rl.pure (D := D) (R := R) ()) (Rl.atNx S 1 wLike (Rl.pure (D := D) (R := R) ()) (Rl.fail S ()))
  have e : ∀ (T : List Tk) (l : Nat), (fun s => if at_ T s 1 wUnlike = true then ((), nx s) else if at_ T s 1 wLike = true then ((), nx s) else ((), L15.fail T l s)) = (fun s => ((), liked T l s)) := fun T l => by
    funext s; unfold liked word; (repeat' split) <;> simp_all
  rw [← e, ← e]
  exact this
theorem rl_not (S : Sim D R T T' l l') (k : Nat) (t : List UInt8) : Rl D R (fun s => (at_ T s k t, s)) (fun s => (at_ T' s k t, s)) := by
  have := Rl.iteAt S k t (Rl.pure (D := D) (R := R) true) (Rl.pure (D := D) (R := R) false)
  have e : ∀ (T : List Tk), (fun s => if at_ T s k t = true then (true, s) else (false, s)) = (fun s => (at_ T s k t, s)) := fun T => by
    funext s; cases at_ T s k t <;> rfl
  rw [← e, ← e]
  exact this
theorem rl_test (S : Sim D R T T' l l') : Rl D R (test T l) (test T' l') := by
  have h1 : ∀ (a : List UInt8) (n : Bool), Rl D R (fun s => ((⟨a, (L15.text T l (liked T l s)).1, n⟩ : Ts), sign T l [59] (L15.text T l (liked T l s)).2)) (fun s => ((⟨a, (L15.text T' l' (liked T' l' s)).1, n⟩ : Ts), sign T' l' [59] (L15.text T' l' (liked T' l' s)).2)) := fun a n =>
    Rl.bind (f := fun s => ((), liked T l s)) (f' := fun s => ((), liked T' l' s)) (g := fun _ s => ((⟨a, (L15.text T l s).1, n⟩ : Ts), sign T l [59] (L15.text T l s).2)) (g' := fun _ s => ((⟨a, (L15.text T' l' s).1, n⟩ : Ts), sign T' l' [59] (L15.text T' l' s).2)) (rl_liked S) fun _ => ((rl_text S).then S [59]).map fun x => (⟨a, x, n⟩ : Ts)
  have h2 : ∀ a : List UInt8, Rl D R (fun s => ((⟨a, (L15.text T l (liked T l s)).1, at_ T s 1 wUnlike⟩ : Ts), sign T l [59] (L15.text T l (liked T l s)).2)) (fun s => ((⟨a, (L15.text T' l' (liked T' l' s)).1, at_ T' s 1 wUnlike⟩ : Ts), sign T' l' [59] (L15.text T' l' (liked T' l' s)).2)) := fun a =>
    Rl.bind (f := fun s => (at_ T s 1 wUnlike, s)) (f' := fun s => (at_ T' s 1 wUnlike, s)) (g := fun n s => ((⟨a, (L15.text T l (liked T l s)).1, n⟩ : Ts), sign T l [59] (L15.text T l (liked T l s)).2)) (g' := fun n s => ((⟨a, (L15.text T' l' (liked T' l' s)).1, n⟩ : Ts), sign T' l' [59] (L15.text T' l' (liked T' l' s)).2)) (rl_not S 1 wUnlike) (h1 a)
  exact Rl.bind (f := L15.take T l 3 []) (f' := L15.take T' l' 3 []) (g := fun a s => ((⟨a, (L15.text T l (liked T l s)).1, at_ T s 1 wUnlike⟩ : Ts), sign T l [59] (L15.text T l (liked T l s)).2)) (g' := fun a s => ((⟨a, (L15.text T' l' (liked T' l' s)).1, at_ T' s 1 wUnlike⟩ : Ts), sign T' l' [59] (L15.text T' l' (liked T' l' s)).2)) (rl_take S 3 []) h2
theorem rl_trapped (S : Sim D R T T' l l') : Rl D R (fun s => ((), trapped T l s)) (fun s => ((), trapped T' l' s)) := by
  have := Rl.atNx S 1 wTrap (Rl.pure (D := D) (R := R) ()) (Rl.fail S ())
  have e : ∀ (T : List Tk) (l : Nat), (fun s => if at_ T s 1 wTrap = true then ((), nx s) else ((), L15.fail T l s)) = (fun s => ((), trapped T l s)) := fun T l => by
    funext s; unfold trapped word; (repeat' split) <;> simp_all
  rw [← e, ← e]
  exact this
theorem rl_word (S : Sim D R T T' l l') (t : List UInt8) : Rl D R (word T t) (word T' t) := by
  have := Rl.atNx S 1 t (Rl.pure (D := D) (R := R) true) (Rl.pure (D := D) (R := R) false)
  exact this
theorem rl_how (S : Sim D R T T' l l') : Rl D R (how T) (how T') := by
  have := Rl.atNx S 1 wWithin (Rl.pure (D := D) (R := R) true) (rl_word S wIs)
  have e : ∀ (T : List Tk), (fun s => if at_ T s 1 wWithin = true then (true, nx s) else word T wIs s) = how T := fun T => by
    funext s; unfold how word; (repeat' split) <;> simp_all
  rw [← e, ← e]
  exact this
theorem Rl.ite (b : Bool) {f f' g g' : Pi → α × Pi} (hf : Rl D R f f') (hg : Rl D R g g') : Rl D R (fun s => if b then f s else g s) (fun s => if b then f' s else g' s) := by
  cases b
  · exact hg
  · exact hf
theorem rl_oid (S : Sim D R T T' l l') : Rl D R (oid T l) (oid T' l') :=
  Rl.bind (g := fun b s => if b then L15.take T l 2 [] s else ([], s)) (g' := fun b s => if b then L15.take T' l' 2 [] s else ([], s)) (rl_how S) fun b => Rl.ite b (rl_take S 2 []) (Rl.pure _)
theorem rl_from (S : Sim D R T T' l l') : Rl D R (fun s => ((((from_ T l s).1, (from_ T l s).2.1, (from_ T l s).2.2.1) : Int × List UInt8 × Bool), (from_ T l s).2.2.2)) (fun s => ((((from_ T' l' s).1, (from_ T' l' s).2.1, (from_ T' l' s).2.2.1) : Int × List UInt8 × Bool), (from_ T' l' s).2.2.2)) := by
  have h2 : Rl D R (fun s => (((1, (oid T l (trapped T l s)).1, at_ T (trapped T l s) 1 wWithin) : Int × List UInt8 × Bool), (oid T l (trapped T l s)).2)) (fun s => (((1, (oid T' l' (trapped T' l' s)).1, at_ T' (trapped T' l' s) 1 wWithin) : Int × List UInt8 × Bool), (oid T' l' (trapped T' l' s)).2)) :=
    Rl.bind (g := fun _ s => (((1, (oid T l s).1, at_ T s 1 wWithin) : Int × List UInt8 × Bool), (oid T l s).2)) (g' := fun _ s => (((1, (oid T' l' s).1, at_ T' s 1 wWithin) : Int × List UInt8 × Bool), (oid T' l' s).2)) (rl_trapped S) fun _ =>
      Rl.bind (g := fun n s => (((1, (oid T l s).1, n) : Int × List UInt8 × Bool), (oid T l s).2)) (g' := fun n s => (((1, (oid T' l' s).1, n) : Int × List UInt8 × Bool), (oid T' l' s).2)) (rl_not S 1 wWithin) fun n => (rl_oid S).map fun x => ((1, x, n) : Int × List UInt8 × Bool)
  have := Rl.atNx S 1 wLog (Rl.pure (D := D) (R := R) ((2, [], false) : Int × List UInt8 × Bool)) h2
  have e : ∀ (T : List Tk) (l : Nat), (fun s => if at_ T s 1 wLog = true then (((2, [], false) : Int × List UInt8 × Bool), nx s) else (((1, (oid T l (trapped T l s)).1, at_ T (trapped T l s) 1 wWithin) : Int × List UInt8 × Bool), (oid T l (trapped T l s)).2)) = (fun s => ((((from_ T l s).1, (from_ T l s).2.1, (from_ T l s).2.2.1) : Int × List UInt8 × Bool), (from_ T l s).2.2.2)) := fun T l => by
    funext s; unfold from_ word; (repeat' split) <;> simp_all
  rw [← e, ← e]
  exact this
theorem rl_kindF (S : Sim D R T T' l l') : ∀ (L : List (List UInt8)) (i : Nat), Rl D R (kindF T l L i) (kindF T' l' L i)
  | [], i => Rl.fail S 0
  | x :: r, i => by
    have := Rl.atNx S 1 x (Rl.pure (D := D) (R := R) (((i : Nat) : Int) + 1)) (rl_kindF S r (i + 1))
    have e : ∀ (T : List Tk) (l : Nat), (fun s => if at_ T s 1 x = true then (((i : Nat) : Int) + 1, nx s) else kindF T l r (i + 1) s) = kindF T l (x :: r) i := fun T l => by
      funext s; rw [kindF]; unfold word; (repeat' split) <;> simp_all
    rw [← e, ← e]
    exact this
theorem rl_again (S : Sim D R T T' l l') (seen : List Nat) (x : List UInt8) (i : Nat) : Rl D R (fun s => ((), again T l seen x i s)) (fun s => ((), again T' l' seen x i s)) := by
  cases hc : seen.contains i
  · have e : ∀ (T : List Tk) (l : Nat), (fun s => ((), again T l seen x i s)) = (fun s => ((), s)) := fun T l => by
      funext s; unfold again; rw [hc]; rfl
    rw [e, e]
    exact Rl.pure ()
  · have := Rl.iteAt S 1 x (Rl.fail S ()) (Rl.pure (D := D) (R := R) ())
    have e : ∀ (T : List Tk) (l : Nat), (fun s => if at_ T s 1 x = true then ((), L15.fail T l s) else ((), s)) = (fun s => ((), again T l seen x i s)) := fun T l => by
      funext s; unfold again; rw [hc]; (repeat' split) <;> simp_all
    rw [← e, ← e]
    exact this
theorem rl_which (S : Sim D R T T' l l') (seen : List Nat) : ∀ (L : List (List UInt8)) (i : Nat) (a : Option Nat), Rl D R (which T l seen L i a) (which T' l' seen L i a)
  | [], i, a => Rl.pure a
  | x :: r, i, a => by
    cases ha : a with
    | some j =>
      have := Rl.bind (rl_again S seen x i) fun _ => rl_which S seen r (i + 1) (some j)
      have e : ∀ (T : List Tk) (l : Nat), (fun s => which T l seen r (i + 1) (some j) (again T l seen x i s)) = which T l seen (x :: r) i (some j) := fun T l => by
        funext s; rw [which]; simp
      rw [← e, ← e]
      exact this
    | none =>
      have := Rl.bind (rl_again S seen x i) fun _ => Rl.atNx S 1 x (rl_which S seen r (i + 1) (some i)) (rl_which S seen r (i + 1) none)
      have e : ∀ (T : List Tk) (l : Nat), (fun s => if at_ T (again T l seen x i s) 1 x = true then which T l seen r (i + 1) (some i) (nx (again T l seen x i s)) else which T l seen r (i + 1) none (again T l seen x i s)) = which T l seen (x :: r) i none := fun T l => by
        funext s; rw [which]; unfold word; (repeat' split) <;> simp_all
      rw [← e, ← e]
      exact this
/-! ### Loops: the fuel does not matter, as long as there is enough -/
theorem at_past {s : Pi} (h : T.length ≤ s.p) (k : Nat) (t : List UInt8) : at_ T s k t = false := by
  unfold at_ cur
  cases s.bad with
  | some _ => rfl
  | none => rw [List.getElem?_eq_none h]
theorem rl_keyOne (S : Sim D R T T' l l') : Rl D R (fun s => ((⟨(L15.text T l s).1, (L15.text T l (sign T l [61] (L15.text T l s).2)).1⟩ : Pr), sign T l [59] (L15.text T l (sign T l [61] (L15.text T l s).2)).2)) (fun s => ((⟨(L15.text T' l' s).1, (L15.text T' l' (sign T' l' [61] (L15.text T' l' s).2)).1⟩ : Pr), sign T' l' [59] (L15.text T' l' (sign T' l' [61] (L15.text T' l' s).2)).2)) :=
  Rl.bind (g := fun a s => ((⟨a, (L15.text T l s).1⟩ : Pr), sign T l [59] (L15.text T l s).2)) (g' := fun a s => ((⟨a, (L15.text T' l' s).1⟩ : Pr), sign T' l' [59] (L15.text T' l' s).2)) ((rl_text S).then S [61]) fun a => ((rl_text S).then S [59]).map fun x => (⟨a, x⟩ : Pr)
theorem keys_d (S : Sim D R T T' l l') : ∀ (f : Nat) (s : Pi), D s → D (keys T l f s).2
  | 0, s, h => h
  | f + 1, s, h => by
    rw [keys]
    split
    · exact keys_d S f _ ((rl_keyOne S).1 s h)
    · exact h
theorem keys_r (S : Sim D R T T' l l') : ∀ (f F : Nat) (s s' : Pi), T.length + 1 ≤ f + s.p → f ≤ F → R s s' → D (keys T l f s).2 ∨ ((keys T' l' F s').1 = (keys T l f s).1 ∧ R (keys T l f s).2 (keys T' l' F s').2)
  | 0, F, s, s', hf, hF, h => by
    rcases S.see s s' h with hd | ⟨ha, -, -⟩
    · exact .inl hd
    · right
      have h0 : at_ T' s' 4 [] = false := by rw [ha]; exact at_past (by omega) _ _
      rw [keys_stop h0 F]
      exact ⟨rfl, h⟩
  | f + 1, 0, s, s', hf, hF, h => by omega
  | f + 1, F + 1, s, s', hf, hF, h => by
    rcases S.see s s' h with hd | ⟨ha, -, -⟩
    · exact .inl (keys_d S (f + 1) s hd)
    · rw [keys, keys, ha]
      split
      · next h4 =>
        have hp := keys_p (last := l) h4
        rcases (rl_keyOne S).2 s s' h with h1 | ⟨h1, h2⟩
        · exact .inl (keys_d S f _ h1)
        · rcases keys_r S f F _ _ (by show _ ≤ f + (sign T l [59] (L15.text T l (sign T l [61] (L15.text T l s).2)).2).p; omega) (by omega) h2 with h3 | ⟨h3, h4⟩
          · exact .inl h3
          · refine .inr ⟨?_, h4⟩
            show _ :: (keys T' l' F _).1 = _ :: (keys T l f _).1
            have h3' : (keys T' l' F (sign T' l' [59] (L15.text T' l' (sign T' l' [61] (L15.text T' l' s').2)).2)).1 = (keys T l f (sign T l [59] (L15.text T l (sign T l [61] (L15.text T l s).2)).2)).1 := h3
            have h1' : (⟨(L15.text T' l' s').1, (L15.text T' l' (sign T' l' [61] (L15.text T' l' s').2)).1⟩ : Pr) = ⟨(L15.text T l s).1, (L15.text T l (sign T l [61] (L15.text T l s).2)).1⟩ := h1
            rw [h3', h1']
      · exact .inr ⟨rfl, h⟩
theorem rl_keys (S : Sim D R T T' l l') : Rl D R (keys T l (T.length + 1)) (keys T' l' (T'.length + 1)) :=
  ⟨fun s h => keys_d S _ s h, fun s s' h => keys_r S _ _ s s' (by omega) (by have := S.len; omega) h⟩
theorem rl_pieceOne (S : Sim D R T T' l l') : Rl D R (fun s => piece T l (sign T l [43] s)) (fun s => piece T' l' (sign T' l' [43] s)) :=
  Rl.bind (f := fun s => ((), sign T l [43] s)) (f' := fun s => ((), sign T' l' [43] s)) (g := fun _ s => piece T l s) (g' := fun _ s => piece T' l' s) (rl_sign S [43]) fun _ => rl_piece S
theorem pieces_d (S : Sim D R T T' l l') : ∀ (f : Nat) (s : Pi), D s → D (pieces T l f s).2
  | 0, s, h => h
  | f + 1, s, h => by
    rw [pieces]
    split
    · exact pieces_d S f _ ((rl_pieceOne S).1 s h)
    · exact h
theorem pieceOne_p {T : List Tk} {l : Nat} {s : Pi} (h : at_ T s 5 [43] = true) : s.p + 1 ≤ (piece T l (sign T l [43] s)).2.p := by
  have h1 := piece_p T l (sign T l [43] s)
  have h2 : (sign T l [43] s).p = s.p + 1 := by unfold sign L15.take; rw [h]; rfl
  omega
theorem pieces_r (S : Sim D R T T' l l') : ∀ (f F : Nat) (s s' : Pi), T.length + 1 ≤ f + s.p → f ≤ F → R s s' → D (pieces T l f s).2 ∨ ((pieces T' l' F s').1 = (pieces T l f s).1 ∧ R (pieces T l f s).2 (pieces T' l' F s').2)
  | 0, F, s, s', hf, hF, h => by
    rcases S.see s s' h with hd | ⟨ha, -, -⟩
    · exact .inl hd
    · right
      have h0 : at_ T' s' 5 [43] = false := by rw [ha]; exact at_past (by omega) _ _
      rw [pieces_stop h0 F]
      exact ⟨rfl, h⟩
  | f + 1, 0, s, s', hf, hF, h => by omega
  | f + 1, F + 1, s, s', hf, hF, h => by
    rcases S.see s s' h with hd | ⟨ha, -, -⟩
    · exact .inl (pieces_d S (f + 1) s hd)
    · rw [pieces, pieces, ha]
      split
      · next h4 =>
        have hp := pieceOne_p (l := l) h4
        rcases (rl_pieceOne S).2 s s' h with h1 | ⟨h1, h2⟩
        · exact .inl (pieces_d S f _ h1)
        · rcases pieces_r S f F _ _ (by show _ ≤ f + (piece T l (sign T l [43] s)).2.p; omega) (by omega) h2 with h3 | ⟨h3, h4⟩
          · exact .inl h3
          · refine .inr ⟨?_, h4⟩
            have h3' : (pieces T' l' F (piece T' l' (sign T' l' [43] s')).2).1 = (pieces T l f (piece T l (sign T l [43] s)).2).1 := h3
            have h1' : (piece T' l' (sign T' l' [43] s')).1 = (piece T l (sign T l [43] s)).1 := h1
            show _ :: _ = _ :: _
            rw [h3', h1']
      · exact .inr ⟨rfl, h⟩
theorem rl_pieces (S : Sim D R T T' l l') : Rl D R (pieces T l (T.length + 1)) (pieces T' l' (T'.length + 1)) :=
  ⟨fun s h => pieces_d S _ s h, fun s s' h => pieces_r S _ _ s s' (by omega) (by have := S.len; omega) h⟩
theorem rl_set (S : Sim D R T T' l l') : Rl D R (L15.set T l) (L15.set T' l') := by
  have h2 : ∀ (n : List UInt8) (x : Pc), Rl D R (fun s => ((⟨n, x :: (pieces T l (T.length + 1) s).1⟩ : St), sign T l [59] (pieces T l (T.length + 1) s).2)) (fun s => ((⟨n, x :: (pieces T' l' (T'.length + 1) s).1⟩ : St), sign T' l' [59] (pieces T' l' (T'.length + 1) s).2)) := fun n x =>
    ((rl_pieces S).then S [59]).map fun r => (⟨n, x :: r⟩ : St)
  have h1 : ∀ n : List UInt8, Rl D R (fun s => ((⟨n, (piece T l s).1 :: (pieces T l (T.length + 1) (piece T l s).2).1⟩ : St), sign T l [59] (pieces T l (T.length + 1) (piece T l s).2).2)) (fun s => ((⟨n, (piece T' l' s).1 :: (pieces T' l' (T'.length + 1) (piece T' l' s).2).1⟩ : St), sign T' l' [59] (pieces T' l' (T'.length + 1) (piece T' l' s).2).2)) := fun n =>
    Rl.bind (g := fun x s => ((⟨n, x :: (pieces T l (T.length + 1) s).1⟩ : St), sign T l [59] (pieces T l (T.length + 1) s).2)) (g' := fun x s => ((⟨n, x :: (pieces T' l' (T'.length + 1) s).1⟩ : St), sign T' l' [59] (pieces T' l' (T'.length + 1) s).2)) (rl_piece S) (h2 n)
  exact Rl.bind (g := fun n s => ((⟨n, (piece T l s).1 :: (pieces T l (T.length + 1) (piece T l s).2).1⟩ : St), sign T l [59] (pieces T l (T.length + 1) (piece T l s).2).2)) (g' := fun n s => ((⟨n, (piece T' l' s).1 :: (pieces T' l' (T'.length + 1) (piece T' l' s).2).1⟩ : St), sign T' l' [59] (pieces T' l' (T'.length + 1) (piece T' l' s).2).2)) ((rl_take S 1 []).then S [61]) h1
/-! ### A table, but for the bracket that ends it -/
def tableB (T : List Tk) (l : Nat) (ln : Int) (s : Pi) : Tb × Pi :=
  (⟨(L15.take T l 1 [] s).1, ln, (keys T l (T.length + 1) (sign T l [123] (L15.take T l 1 [] s).2)).1, (els T l (keys T l (T.length + 1) (sign T l [123] (L15.take T l 1 [] s).2)).2).1⟩, (els T l (keys T l (T.length + 1) (sign T l [123] (L15.take T l 1 [] s).2)).2).2)
theorem table_b (T : List Tk) (l : Nat) (ln : Int) (s : Pi) : table T l ln s = ((tableB T l ln s).1, sign T l [125] (tableB T l ln s).2) := rfl
theorem rl_tableB (S : Sim D R T T' l l') (ln : Int) : Rl D R (tableB T l ln) (tableB T' l' ln) := by
  have h1 : ∀ n : List UInt8, Rl D R (fun s => ((⟨n, ln, (keys T l (T.length + 1) s).1, (els T l (keys T l (T.length + 1) s).2).1⟩ : Tb), (els T l (keys T l (T.length + 1) s).2).2)) (fun s => ((⟨n, ln, (keys T' l' (T'.length + 1) s).1, (els T' l' (keys T' l' (T'.length + 1) s).2).1⟩ : Tb), (els T' l' (keys T' l' (T'.length + 1) s).2).2)) := fun n =>
    Rl.bind (g := fun k s => ((⟨n, ln, k, (els T l s).1⟩ : Tb), (els T l s).2)) (g' := fun k s => ((⟨n, ln, k, (els T' l' s).1⟩ : Tb), (els T' l' s).2)) (rl_keys S) fun k => (rl_els S).map fun e => (⟨n, ln, k, e⟩ : Tb)
  exact Rl.bind (g := fun n s => ((⟨n, ln, (keys T l (T.length + 1) s).1, (els T l (keys T l (T.length + 1) s).2).1⟩ : Tb), (els T l (keys T l (T.length + 1) s).2).2)) (g' := fun n s => ((⟨n, ln, (keys T' l' (T'.length + 1) s).1, (els T' l' (keys T' l' (T'.length + 1) s).2).1⟩ : Tb), (els T' l' (keys T' l' (T'.length + 1) s).2).2)) ((rl_take S 1 []).then S [123]) h1
/-! ### A rule -/
/-- Fuel that is enough: each clause takes a token or fails. -/
def Fu (T : List Tk) (f : Nat) (s : Pi) : Prop := s.bad = none → T.length + 1 ≤ f + min s.p T.length
theorem Fu.step {T : List Tk} {f : Nat} {s s' : Pi} (h : Fu T (f + 1) s) (hb : s.bad = none) (hp : s'.bad = none → s.p + 1 ≤ s'.p ∧ s.p < T.length) : Fu T f s' := by
  intro h1
  have h2 := h hb
  have h3 := hp h1
  omega
theorem Fu.zero {T : List Tk} {s : Pi} (h : Fu T 0 s) : goOn T s = false := by
  cases hb : s.bad with
  | none => have := h hb; omega
  | some _ => exact goOn_bad (by rw [hb]; simp)
theorem goOn_none {T : List Tk} {s : Pi} (h : goOn T s = true) : s.bad = none := by
  cases hb : s.bad with
  | none => rfl
  | some _ => rw [goOn_bad (by rw [hb]; simp)] at h; cases h
theorem at_lt {T : List Tk} {s : Pi} {k : Nat} {t : List UInt8} (h : at_ T s k t = true) : s.p < T.length := by
  rcases Nat.lt_or_ge s.p T.length with h1 | h1
  · exact h1
  · rw [at_past h1] at h; cases h
theorem goOn_see (S : Sim D R T T' l l') {s s' : Pi} (ha : ∀ k t, at_ T' s' k t = at_ T s k t) (hb : s'.bad.isNone = s.bad.isNone) : goOn T' s' = goOn T s := by unfold goOn; rw [ha, hb]
theorem rl_dropOne (S : Sim D R T T' l l') (t : List UInt8) (s s' : Pi) (h : R s s') (h1 : at_ T s 1 t = true) : D (sign T l [59] (nx s)) ∨ R (sign T l [59] (nx s)) (sign T' l' [59] (nx s')) := by
  rcases (rl_sign S [59]).2 _ _ (S.nx s s' 1 t h h1) with h2 | ⟨-, h2⟩
  · exact .inl h2
  · exact .inr h2
theorem clauses_d (S : Sim D R T T' l l') : ∀ (f : Nat) (ts : List Ts) (ss : List St) (d : Bool) (s : Pi), D s → D (clauses T l f ts ss d s).2.2.2
  | 0, ts, ss, d, s, h => h
  | f + 1, ts, ss, d, s, h => by
    rw [clauses]
    split
    · split
      · exact clauses_d S f _ _ _ _ ((rl_test S).1 _ (S.dnx s h))
      · split
        · exact clauses_d S f _ _ _ _ ((rl_set S).1 _ (S.dnx s h))
        · split
          · exact clauses_d S f _ _ _ _ ((rl_sign S [59]).1 _ (S.dnx s h))
          · exact clauses_d S f _ _ _ _ (S.dfail s h)
    · exact h
theorem clauses_r (S : Sim D R T T' l l') : ∀ (f F : Nat) (ts : List Ts) (ss : List St) (d : Bool) (s s' : Pi), Fu T f s → f ≤ F → R s s' → D (clauses T l f ts ss d s).2.2.2 ∨ (((clauses T' l' F ts ss d s').1 = (clauses T l f ts ss d s).1 ∧ (clauses T' l' F ts ss d s').2.1 = (clauses T l f ts ss d s).2.1 ∧ (clauses T' l' F ts ss d s').2.2.1 = (clauses T l f ts ss d s).2.2.1) ∧ R (clauses T l f ts ss d s).2.2.2 (clauses T' l' F ts ss d s').2.2.2)
  | f, F, ts, ss, d, s, s', hf, hF, h => by
    rcases S.see s s' h with hd | ⟨ha, -, hb⟩
    · exact .inl (clauses_d S f _ _ _ _ hd)
    · have hg := goOn_see S ha hb
      rcases hgo : goOn T s with _ | _
      · rw [cl_stop hgo, cl_stop (hg.trans hgo)]
        exact .inr ⟨⟨rfl, rfl, rfl⟩, h⟩
      · have hbn := goOn_none hgo
        match f, F, hf, hF with
        | 0, F, hf, hF => rw [hf.zero] at hgo; cases hgo
        | f + 1, F + 1, hf, hF =>
          have hgo' := hg.trans hgo
          have hn : (nx s).p = s.p + 1 := rfl
          rcases h1 : at_ T s 1 wTest with _ | _
          · have h1' := (ha 1 wTest).trans h1
            rcases h2 : at_ T s 1 wSet with _ | _
            · have h2' := (ha 1 wSet).trans h2
              rcases hd : d with _ | _
              · rcases h3 : at_ T s 1 wDrop with _ | _
                · have h3' := (ha 1 wDrop).trans h3
                  rw [cl_bad hgo h1 h2 (.inr h3), cl_bad hgo' h1' h2' (.inr h3')]
                  rcases S.fail s s' h with h4 | h4
                  · exact .inl (clauses_d S f _ _ _ _ h4)
                  · exact clauses_r S f F _ _ _ _ _ (hf.step hbn fun hx => absurd hx (fail_bad T l s)) (by omega) h4
                · have h3' := (ha 1 wDrop).trans h3
                  rw [cl_drop hgo h1 h2 h3, cl_drop hgo' h1' h2' h3']
                  rcases rl_dropOne S wDrop s s' h h3 with h4 | h4
                  · exact .inl (clauses_d S f _ _ _ _ h4)
                  · exact clauses_r S f F _ _ _ _ _ (hf.step hbn fun _ => ⟨by have := sign_p T l [59] (nx s); omega, at_lt h3⟩) (by omega) h4
              · rw [cl_bad hgo h1 h2 (.inl rfl), cl_bad hgo' h1' h2' (.inl rfl)]
                rcases S.fail s s' h with h4 | h4
                · exact .inl (clauses_d S f _ _ _ _ h4)
                · exact clauses_r S f F _ _ _ _ _ (hf.step hbn fun hx => absurd hx (fail_bad T l s)) (by omega) h4
            · have h2' := (ha 1 wSet).trans h2
              rw [cl_set hgo h1 h2, cl_set hgo' h1' h2']
              rcases (rl_set S).2 _ _ (S.nx s s' 1 wSet h h2) with h4 | ⟨h4, h5⟩
              · exact .inl (clauses_d S f _ _ _ _ h4)
              · rw [h4]
                exact clauses_r S f F _ _ _ _ _ (hf.step hbn fun _ => ⟨by have := set_p T l (nx s); omega, at_lt h2⟩) (by omega) h5
          · have h1' := (ha 1 wTest).trans h1
            rw [cl_test hgo h1, cl_test hgo' h1']
            rcases (rl_test S).2 _ _ (S.nx s s' 1 wTest h h1) with h4 | ⟨h4, h5⟩
            · exact .inl (clauses_d S f _ _ _ _ h4)
            · rw [h4]
              exact clauses_r S f F _ _ _ _ _ (hf.step hbn fun _ => ⟨by have := test_p T l (nx s); omega, at_lt h1⟩) (by omega) h5
def clF (T : List Tk) (l : Nat) (s : Pi) : (List Ts × List St × Bool) × Pi := (((clauses T l (T.length + 2) [] [] false s).1, (clauses T l (T.length + 2) [] [] false s).2.1, (clauses T l (T.length + 2) [] [] false s).2.2.1), (clauses T l (T.length + 2) [] [] false s).2.2.2)
theorem rl_clF (S : Sim D R T T' l l') : Rl D R (clF T l) (clF T' l') :=
  ⟨fun s h => clauses_d S _ _ _ _ s h, fun s s' h => by
    rcases clauses_r S (T.length + 2) (T'.length + 2) [] [] false s s' (fun _ => by omega) (by have := S.len; omega) h with h1 | ⟨⟨h1, h2, h3⟩, h4⟩
    · exact .inl h1
    · refine .inr ⟨?_, h4⟩
      show (_, _, _) = (_, _, _)
      rw [h1, h2, h3]⟩
def ruleB (T : List Tk) (l : Nat) (ln : Int) (s : Pi) : Ru × Pi :=
  let r := from_ T l (L15.take T l 1 [] s).2
  let c := clF T l (sign T l [123] r.2.2.2)
  (⟨(L15.take T l 1 [] s).1, ln, r.1, r.2.1, r.2.2.1, c.1.1, c.1.2.1, c.1.2.2⟩, c.2)
theorem rule_b (T : List Tk) (l : Nat) (ln : Int) (s : Pi) : rule T l ln s = ((ruleB T l ln s).1, sign T l [125] (ruleB T l ln s).2) := rfl
def frF (T : List Tk) (l : Nat) (s : Pi) : (Int × List UInt8 × Bool) × Pi := (((from_ T l s).1, (from_ T l s).2.1, (from_ T l s).2.2.1), sign T l [123] (from_ T l s).2.2.2)
theorem rl_frF (S : Sim D R T T' l l') : Rl D R (frF T l) (frF T' l') := (rl_from S).then S [123]
theorem rl_ruleB (S : Sim D R T T' l l') (ln : Int) : Rl D R (ruleB T l ln) (ruleB T' l' ln) := by
  have h1 : ∀ n : List UInt8, Rl D R (fun s => ((⟨n, ln, (frF T l s).1.1, (frF T l s).1.2.1, (frF T l s).1.2.2, (clF T l (frF T l s).2).1.1, (clF T l (frF T l s).2).1.2.1, (clF T l (frF T l s).2).1.2.2⟩ : Ru), (clF T l (frF T l s).2).2)) (fun s => ((⟨n, ln, (frF T' l' s).1.1, (frF T' l' s).1.2.1, (frF T' l' s).1.2.2, (clF T' l' (frF T' l' s).2).1.1, (clF T' l' (frF T' l' s).2).1.2.1, (clF T' l' (frF T' l' s).2).1.2.2⟩ : Ru), (clF T' l' (frF T' l' s).2).2)) := fun n =>
    Rl.bind (g := fun r s => ((⟨n, ln, r.1, r.2.1, r.2.2, (clF T l s).1.1, (clF T l s).1.2.1, (clF T l s).1.2.2⟩ : Ru), (clF T l s).2)) (g' := fun r s => ((⟨n, ln, r.1, r.2.1, r.2.2, (clF T' l' s).1.1, (clF T' l' s).1.2.1, (clF T' l' s).1.2.2⟩ : Ru), (clF T' l' s).2)) (rl_frF S) fun r => (rl_clF S).map fun c => (⟨n, ln, r.1, r.2.1, r.2.2, c.1, c.2.1, c.2.2⟩ : Ru)
  exact Rl.bind (g := fun n s => ((⟨n, ln, (frF T l s).1.1, (frF T l s).1.2.1, (frF T l s).1.2.2, (clF T l (frF T l s).2).1.1, (clF T l (frF T l s).2).1.2.1, (clF T l (frF T l s).2).1.2.2⟩ : Ru), (clF T l (frF T l s).2).2)) (g' := fun n s => ((⟨n, ln, (frF T' l' s).1.1, (frF T' l' s).1.2.1, (frF T' l' s).1.2.2, (clF T' l' (frF T' l' s).2).1.1, (clF T' l' (frF T' l' s).2).1.2.1, (clF T' l' (frF T' l' s).2).1.2.2⟩ : Ru), (clF T' l' (frF T' l' s).2).2)) (rl_take S 1 []) h1
/-! ### A watch -/
def clG (T : List Tk) (l : Nat) (w : Wt) (seen : List Nat) (s : Pi) : (Wt × List Nat) × Pi := (((clause T l w seen s).1, (clause T l w seen s).2.1), (clause T l w seen s).2.2)
def clH (T : List Tk) (l : Nat) (w : Wt) (seen : List Nat) (o : Option Nat) (a : Pi) : (Wt × List Nat) × Pi :=
  match o with
  | none => ((w, seen), L15.fail T l a)
  | some i =>
    if i = 0 then (({ w with cl := (L15.text T l a).1 }, seen ++ [i]), sign T l [59] (L15.text T l a).2)
    else if i = 1 then (({ w with ot := (L15.text T l a).1 }, seen ++ [i]), sign T l [59] (L15.text T l a).2)
    else if i = 2 then (({ w with ct := (number T l a).1 }, seen ++ [i]), sign T l [59] (number T l a).2)
    else if i = 3 then (({ w with wn := (span T l a).1 }, seen ++ [i]), sign T l [59] (span T l a).2)
    else (({ w with ra := (L15.text T l a).1, lv := (number T l (L15.text T l a).2).1, tx := (L15.text T l (number T l (L15.text T l a).2).2).1 }, seen ++ [i]), sign T l [59] (L15.text T l (number T l (L15.text T l a).2).2).2)
theorem clG_eq (T : List Tk) (l : Nat) (w : Wt) (seen : List Nat) (s : Pi) : clG T l w seen s = clH T l w seen (which T l seen wClauses 0 none s).1 (which T l seen wClauses 0 none s).2 := by
  unfold clG clause clH
  rcases which T l seen wClauses 0 none s with ⟨_ | i, a⟩
  · rfl
  · dsimp only
    (repeat' split) <;> rfl
theorem rl_clH (S : Sim D R T T' l l') (w : Wt) (seen : List Nat) (o : Option Nat) : Rl D R (clH T l w seen o) (clH T' l' w seen o) := by
  cases o with
  | none => exact Rl.fail S (w, seen)
  | some i =>
    unfold clH
    dsimp only
    split
    · exact ((rl_text S).then S [59]).map fun x => (({ w with cl := x } : Wt), seen ++ [i])
    split
    · exact ((rl_text S).then S [59]).map fun x => (({ w with ot := x } : Wt), seen ++ [i])
    split
    · exact ((rl_number S).then S [59]).map fun x => (({ w with ct := x } : Wt), seen ++ [i])
    split
    · exact ((rl_span S).then S [59]).map fun x => (({ w with wn := x } : Wt), seen ++ [i])
    · have h2 : ∀ x : List UInt8, Rl D R (fun a => ((({ w with ra := x, lv := (number T l a).1, tx := (L15.text T l (number T l a).2).1 } : Wt), seen ++ [i]), sign T l [59] (L15.text T l (number T l a).2).2)) (fun a => ((({ w with ra := x, lv := (number T' l' a).1, tx := (L15.text T' l' (number T' l' a).2).1 } : Wt), seen ++ [i]), sign T' l' [59] (L15.text T' l' (number T' l' a).2).2)) := fun x =>
        Rl.bind (g := fun y a => ((({ w with ra := x, lv := y, tx := (L15.text T l a).1 } : Wt), seen ++ [i]), sign T l [59] (L15.text T l a).2)) (g' := fun y a => ((({ w with ra := x, lv := y, tx := (L15.text T' l' a).1 } : Wt), seen ++ [i]), sign T' l' [59] (L15.text T' l' a).2)) (rl_number S) fun y => ((rl_text S).then S [59]).map fun z => (({ w with ra := x, lv := y, tx := z } : Wt), seen ++ [i])
      exact Rl.bind (g := fun x a => ((({ w with ra := x, lv := (number T l a).1, tx := (L15.text T l (number T l a).2).1 } : Wt), seen ++ [i]), sign T l [59] (L15.text T l (number T l a).2).2)) (g' := fun x a => ((({ w with ra := x, lv := (number T' l' a).1, tx := (L15.text T' l' (number T' l' a).2).1 } : Wt), seen ++ [i]), sign T' l' [59] (L15.text T' l' (number T' l' a).2).2)) (rl_text S) h2
theorem rl_clG (S : Sim D R T T' l l') (w : Wt) (seen : List Nat) : Rl D R (clG T l w seen) (clG T' l' w seen) := by
  have := Rl.bind (rl_which S seen wClauses 0 none) fun o => rl_clH S w seen o
  have e : ∀ (T : List Tk) (l : Nat), (fun s => clH T l w seen (which T l seen wClauses 0 none s).1 (which T l seen wClauses 0 none s).2) = clG T l w seen := fun T l => by
    funext s; rw [clG_eq]
  rw [e, e] at this
  exact this
theorem which_past {T : List Tk} {l : Nat} {seen : List Nat} {s : Pi} (h : T.length ≤ s.p) : ∀ (L : List (List UInt8)) (i : Nat), which T l seen L i none s = (none, s)
  | [], i => rfl
  | x :: r, i => by
    have h1 : again T l seen x i s = s := by unfold again; rw [at_past h]; simp
    have h2 : (word T x s).1 = false := by unfold word; rw [at_past h]; rfl
    rw [which, h1, h2]
    exact which_past h r (i + 1)
theorem clause_past {T : List Tk} {l : Nat} {w : Wt} {seen : List Nat} {s : Pi} (h : T.length ≤ s.p) : (clause T l w seen s).2.2.bad ≠ none := by
  unfold clause
  rw [which_past h]
  exact fail_bad T l s
theorem watches_d (S : Sim D R T T' l l') : ∀ (f : Nat) (w : Wt) (seen : List Nat) (s : Pi), D s → D (watches T l f w seen s).2
  | 0, w, seen, s, h => h
  | f + 1, w, seen, s, h => by
    rw [watches]
    split
    · exact watches_d S f _ _ _ ((rl_clG S w seen).1 s h)
    · exact h
theorem watches_r (S : Sim D R T T' l l') : ∀ (f F : Nat) (w : Wt) (seen : List Nat) (s s' : Pi), Fu T f s → f ≤ F → R s s' → D (watches T l f w seen s).2 ∨ ((watches T' l' F w seen s').1 = (watches T l f w seen s).1 ∧ R (watches T l f w seen s).2 (watches T' l' F w seen s').2)
  | f, F, w, seen, s, s', hf, hF, h => by
    rcases S.see s s' h with hd | ⟨ha, -, hb⟩
    · exact .inl (watches_d S f _ _ _ hd)
    · have hg := goOn_see S ha hb
      rcases hgo : goOn T s with _ | _
      · rw [wa_stop hgo, wa_stop (hg.trans hgo)]
        exact .inr ⟨rfl, h⟩
      · have hbn := goOn_none hgo
        match f, F, hf, hF with
        | 0, F, hf, hF => rw [hf.zero] at hgo; cases hgo
        | f + 1, F + 1, hf, hF =>
          have hgo' := hg.trans hgo
          rw [wa_go hgo, wa_go hgo']
          rcases (rl_clG S w seen).2 s s' h with h4 | ⟨h4, h5⟩
          · exact .inl (watches_d S f _ _ _ h4)
          · have h6 : (clause T' l' w seen s').1 = (clause T l w seen s).1 := congrArg (·.1) h4
            have h7 : (clause T' l' w seen s').2.1 = (clause T l w seen s).2.1 := congrArg (·.2) h4
            rw [h6, h7]
            refine watches_r S f F _ _ _ _ (hf.step hbn fun hx => ⟨(clause_p T l w seen s).2.1 hx, ?_⟩) (by omega) h5
            rcases Nat.lt_or_ge s.p T.length with h8 | h8
            · exact h8
            · exact absurd hx (clause_past h8)
def waF (T : List Tk) (l : Nat) (w : Wt) (s : Pi) : Wt × Pi := watches T l (T.length + 2) w [] s
theorem rl_waF (S : Sim D R T T' l l') (w : Wt) : Rl D R (waF T l w) (waF T' l' w) :=
  ⟨fun s h => watches_d S _ _ _ s h, fun s s' h => watches_r S (T.length + 2) (T'.length + 2) w [] s s' (fun _ => by omega) (by have := S.len; omega) h⟩
def watchB (T : List Tk) (l : Nat) (ln : Int) (s : Pi) : Wt × Pi :=
  waF T l ⟨(L15.take T l 1 [] s).1, ln, (kind T l (L15.take T l 1 [] s).2).1, [], [], 0, 0, [], 0, []⟩ (sign T l [123] (kind T l (L15.take T l 1 [] s).2).2)
theorem watch_b (T : List Tk) (l : Nat) (ln : Int) (s : Pi) : watch T l ln s = ((watchB T l ln s).1, sign T l [125] (watchB T l ln s).2) := rfl
theorem rl_watchB (S : Sim D R T T' l l') (ln : Int) : Rl D R (watchB T l ln) (watchB T' l' ln) := by
  have hk : Rl D R (fun s => ((kind T l s).1, sign T l [123] (kind T l s).2)) (fun s => ((kind T' l' s).1, sign T' l' [123] (kind T' l' s).2)) := Rl.then (f := kind T l) (f' := kind T' l') (rl_kindF S wKinds 0) S [123]
  have h1 : ∀ n : List UInt8, Rl D R (fun s => waF T l ⟨n, ln, (kind T l s).1, [], [], 0, 0, [], 0, []⟩ (sign T l [123] (kind T l s).2)) (fun s => waF T' l' ⟨n, ln, (kind T' l' s).1, [], [], 0, 0, [], 0, []⟩ (sign T' l' [123] (kind T' l' s).2)) := fun n =>
    Rl.bind (g := fun k s => waF T l ⟨n, ln, k, [], [], 0, 0, [], 0, []⟩ s) (g' := fun k s => waF T' l' ⟨n, ln, k, [], [], 0, 0, [], 0, []⟩ s) hk fun k => rl_waF S _
  exact Rl.bind (g := fun n s => waF T l ⟨n, ln, (kind T l s).1, [], [], 0, 0, [], 0, []⟩ (sign T l [123] (kind T l s).2)) (g' := fun n s => waF T' l' ⟨n, ln, (kind T' l' s).1, [], [], 0, 0, [], 0, []⟩ (sign T' l' [123] (kind T' l' s).2)) (rl_take S 1 []) h1
end
end L15
end Go.Proofs.YtaeglmgpoboihaaGreatDoor
