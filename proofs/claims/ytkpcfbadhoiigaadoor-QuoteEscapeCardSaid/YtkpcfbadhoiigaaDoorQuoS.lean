/- QuoteReads, on calls that keep their word. -/
import Derived.Test.YtkpcfbadhoiigaaDoorQuoW
namespace Go.Proofs.YtkpcfbadhoiigaaDoor
open Go.ChangeShapes Go.WideShapes Go.ChangeAt Go.RowKit K Q10 U4
set_option linter.unusedVariables false

theorem okL_bnds {n : Nat} {l : List El} (hn : n ≤ 1000000) (hl : l.length ≤ n) (h : ∀ x ∈ l, Sml n x) : l.length ≤ 140737488351232 ∧ ∀ x ∈ l, x.ps.length ≤ 140737488351232 :=
  ⟨by omega, fun x hx => by have := (h x hx).2.1; omega⟩
theorem paL_small (s : List UInt8) : (paL s).length ≤ s.length ∧ ∀ x ∈ paL s, Sml s.length x := by
  cases hp : pa s with
  | none => rw [(pa_no hp).1]; exact ⟨by simp, fun x hx => by cases hx⟩
  | some q =>
    obtain ⟨k, r⟩ := q
    rw [(pa_of hp).1]
    obtain ⟨_, _, h2, _⟩ := pa_some hp
    refine ⟨h2, ?_⟩
    by_cases h45 : ∃ t, s = 45 :: t
    · obtain ⟨t, rfl⟩ := h45
      have e : pa (45 :: t) = some ([], t) := rfl
      rw [e] at hp
      simp only [Option.some.injEq, Prod.mk.injEq] at hp
      obtain ⟨rfl, rfl⟩ := hp
      intro x hx; cases hx
    · obtain ⟨h1, h2⟩ := pa_what (l := s) (fun r e => h45 ⟨r, e⟩)
      cases he : elsL s with
      | none => rw [h1 he] at hp; cases hp
      | some q =>
        obtain ⟨es, z⟩ := q
        rw [h2 es z he] at hp
        split at hp
        · simp only [Option.some.injEq, Prod.mk.injEq] at hp
          obtain ⟨rfl, rfl⟩ := hp
          exact els_small _ _ (Nat.le_refl _) _ _ he
        · cases hp
/-- The document's Parse, as a caller reads it. -/
theorem qparseQ_walk (l : List UInt8) (hl : l.length ≤ 10000) (w : World) :
    Calls Tryd.prog 10 #[.string (bs l)] w (PaQ l w) := by
  refine (qparse10_walk l hl w).mono ?_
  rintro e w' (⟨hp, rfl, b⟩ | ⟨es, r, v, hp, rfl, ho, b⟩)
  · obtain ⟨h1, h2, h3⟩ := pa_no hp
    refine ⟨none, 0, ?_, ?_, b⟩
    · rw [h1, h2, h3]; rfl
    · rw [h1]; exact ⟨[], rfl, .inl rfl, fun z hz => by cases hz⟩
  · obtain ⟨h1, h2, h3⟩ := pa_of hp
    obtain ⟨ao, cap, rfl, hr, _⟩ := ho.form
    refine ⟨ao, cap, ?_, ?_, b⟩
    · rw [h1, h2, h3]; rfl
    · rw [h1]; exact hr
set_option maxRecDepth 100000 in
set_option maxHeartbeats 4000000 in
theorem quoteReads_walk (I : World → Prop) (KK : Keeps I) (KP : HParse I) (KS : HSame I) (KN : HIsName I) (KE : HEscape I) (s : List UInt8) (hs : s.length ≤ 140737488351232) (w : World) (hw : I w) :
    Calls Tryd.prog 3 #[.string (bs s)] w fun e w' => e = .returned (.bool true) ∧ Below w.heap.size w w' := by
  have HW := Lib.hid (fun w1 (h : I w1) => works10_walk I KK KP KS w1 h)
  have HK := Lib.hid (fun w1 (b : Below w.heap.size w w1) => KK w w1 hw b)
  by_cases h2 : s.length ≤ 2000
  rotate_left
  · have h3 : (2000 : Int) < (s.length : Nat) := by omega
    clear h2
    go_enter Tryd.func3, Tryd.ntmps3
    go_wp2_with fail
    refine (HW.out _ (HK.out _ (Below.refl _ _))).mono ?_
    rintro e w1 ⟨rfl, b1⟩
    go_wp2
    go_ret
    exact ⟨rfl, b1⟩
  have h3 : ¬ (2000 : Int) < (s.length : Nat) := by omega
  obtain ⟨q1, q2⟩ := paL_small s
  obtain ⟨hn, hps⟩ := okL_bnds (by omega) q1 q2
  have HP := Lib.hid (fun w1 (h : I w1) => KP s w1 (by omega) h)
  have HQP := Lib.hid (fun w1 => qparseQ_walk s (by omega) w1)
  unfold PaQ at HP HQP
  have HS := Lib.hid (fun oo ob oc oe w1 (h : RdE w1 oo (paL s)) (h2 : RdE w1 ob (paL s)) => qsame10_walk (paL s) (paL s) oo ob oc oe hn hn hps hps w1 h h2)
  have hll : saE (paL s) (paL s) = true := saE_yes rfl
  rw [hll] at HS
  have HN := Lib.hid (fun w1 (h : I w1) => KN s w1 (by omega) h)
  have HQN := Lib.hid (fun w1 => qisname_walk s (by omega) w1)
  have HE := Lib.hid (fun w1 (h : I w1) => KE s w1 (by omega) h)
  have HQE := Lib.hid (fun w1 => qescape_walk s (by omega) w1)
  clear hll q1 q2 hn hps h2 KK KP KS KN KE
  generalize paL s = PL at *
  generalize paR s = PR at *
  generalize paE s = PE at *
  generalize isN s = NB at *
  generalize esc s = EV at *
  go_enter Tryd.func3, Tryd.ntmps3
  go_wp2_with fail
  refine (HP.out _ (HK.out _ (Below.refl _ _))).mono ?_
  rintro e w1 ⟨oo, oc, rfl, r1, b1⟩
  go_wp2_with fail
  refine (HQP.out _).mono ?_
  rintro e w2 ⟨ob, oe, rfl, r2, d2⟩
  have b2 := b1.trans (d2.mono b1.size)
  have r3 := r1.below d2
  clear d2 b1 r1
  go_wp2_with fail
  refine (HS.out oo ob _ _ _ r3 r2).mono ?_
  rintro e w3 ⟨rfl, m3, rfl⟩
  have b3 := bdr b2 m3
  clear b2 r3 r2
  generalize w2.drewN m3 = w3 at *
  have hpe : (((PE : Nat) : Int) == ((PE : Nat) : Int)) = true := beq_self_eq_true _
  have hnb : (NB == NB) = true := beq_self_eq_true _
  go_wp2_with fail
  refine (HN.out _ (HK.out _ b3)).mono ?_
  rintro e w4 ⟨rfl, d4⟩
  have b4 := b3.trans (d4.mono b3.size)
  clear d4 b3
  go_wp2_with fail
  refine (HQN.out _).mono ?_
  rintro e w5 ⟨rfl, m5, rfl⟩
  have b5 := bdr b4 m5
  clear b4
  generalize w4.drewN m5 = w5 at *
  go_wp2_with fail
  refine (HE.out _ (HK.out _ b5)).mono ?_
  rintro e w6 ⟨rfl, d6⟩
  have b6 := b5.trans (d6.mono b5.size)
  clear d6 b5
  go_wp2_with fail
  refine (HQE.out _).mono ?_
  rintro e w7 ⟨rfl, m7, rfl⟩
  have b7 := bdr b6 m7
  clear b6
  generalize w6.drewN m7 = w7 at *
  go_wp2_with fail
  refine (HW.out _ (HK.out _ b7)).mono ?_
  rintro e w8 ⟨rfl, d8⟩
  have b8 := b7.trans (d8.mono b7.size)
  go_wp2
  go_ret
  exact ⟨rfl, b8⟩
end Go.Proofs.YtkpcfbadhoiigaaDoor
