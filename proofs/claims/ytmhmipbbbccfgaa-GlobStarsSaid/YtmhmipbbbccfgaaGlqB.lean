/- The program's nextRange, walked. -/
import Derived.Test.YtmhmipbbbccfgaaGlqA
namespace Go.Proofs.Ytmhmipbbbccfgaa
open Go.ChangeShapes Go.WideShapes Go.ChangeAt Go.RowKit K G13
set_option linter.unusedVariables false

theorem results_tmp4 {fn : Func} {t u v x : Tmp} (h : fn.results = #[.tmp t, .tmp u, .tmp v, .tmp x]) (tmps : Array Value) (P : Program) (w : World) :
    (results fn tmps).run P w = .ok (.tuple #[tmps.getD t undef, tmps.getD u undef, tmps.getD v undef, tmps.getD x undef]) w := by
  simp [results, h]
/-- What nextRange answers. -/
def RgPost (o : Option ((UInt8 × UInt8) × List UInt8)) (w : World) (e : Ending) (w' : World) : Prop :=
  (∃ n, w' = w.drewN n) ∧ match o with
  | none => ∃ (x y : Nat) (z : List UInt8), x < 256 ∧ y < 256 ∧ e = .returned (.tuple #[.int .u8 x, .int .u8 y, .string (bs z), .bool false])
  | some ((a, b), r) => e = .returned (.tuple #[.int .u8 (a.toNat : Nat), .int .u8 (b.toNat : Nat), .string (bs r), .bool true])
set_option maxRecDepth 100000 in
set_option maxHeartbeats 1000000 in
theorem nextrange_walk (s : List UInt8) (hs : s.length ≤ 140737488355327) (w : World) :
    Calls Try.prog 47 #[.string (bs s)] w (RgPost (rng s) w) := by
  have HB := Lib.hid (fun wx => rangebyte_walk s hs wx)
  have HC := Lib.hid (fun t wx => gcutp_walk t [45] wx)
  cases hm : mem13 s with
  | none =>
    have HR := Lib.hid (show rng s = none by unfold rng; rw [hm])
    rw [hm] at HB
    have h1 := HC.out []
    rw [(cut1_no 45 [] (by simp)).1, (cut1_no 45 [] (by simp)).2] at h1
    have H1 := Lib.hid h1
    clear hm h1 hs
    have HZ : byV none = .tuple #[.int .u8 0, .string (bs []), .bool false] := rfl
    rw [HZ] at HB
    clear HZ
    go_enter Try.func47, Try.ntmps47
    go_wp2_with fail
    refine (HB.out _).mono ?_
    rintro e w1 ⟨rfl, m1, rfl⟩
    go_wp2_with fail
    refine (H1.out _).mono ?_
    rintro e w2 ⟨rfl, rfl⟩
    go_wp2
    refine bodyPost_ret (results_tmp4 rfl _ _ _) rfl ?_
    unfold RgPost
    rw [HR.out]
    exact ⟨⟨_, rfl⟩, 0, 0, [], by decide, by decide, rfl⟩
  | some x =>
    obtain ⟨a, r⟩ := x
    rw [hm] at HB
    have HZ : byV (some (a, r)) = .tuple #[.int .u8 (a.toNat : Nat), .string (bs r), .bool true] := rfl
    rw [HZ] at HB
    clear HZ
    have hrl := mem_len hm
    have ha : a.toNat < 256 := a.toNat_lt
    by_cases h45 : r.head? = some 45
    · cases r with
      | nil => cases h45
      | cons d q =>
        injection h45 with h45
        subst h45
        have h1 := HC.out (45 :: q)
        rw [(cut1_yes 45 q).1, (cut1_yes 45 q).2] at h1
        have H1 := Lib.hid h1
        have H2 := Lib.hid (fun wx => rangebyte_walk q (by simp at hrl; omega) wx)
        clear h1
        cases hq : mem13 q with
        | none =>
          have HR := Lib.hid (show rng s = none by unfold rng; rw [hm]; simp only [if_true, hq])
          rw [hq, show byV none = .tuple #[.int .u8 0, .string (bs []), .bool false] from rfl] at H2
          clear hm hq hs hrl
          generalize 45 :: q = rr at *
          generalize a.toNat = an at *
          go_enter Try.func47, Try.ntmps47
          go_wp2_with fail
          refine (HB.out _).mono ?_
          rintro e w1 ⟨rfl, m1, rfl⟩
          go_wp2_with fail
          refine (H1.out _).mono ?_
          rintro e w2 ⟨rfl, rfl⟩
          go_wp2_with fail
          refine (H2.out _).mono ?_
          rintro e w3 ⟨rfl, m2, rfl⟩
          go_wp2
          refine bodyPost_ret (results_tmp4 rfl _ _ _) rfl ?_
          unfold RgPost
          rw [HR.out]
          exact ⟨⟨_, rfl⟩, an, 0, [], ha, by decide, rfl⟩
        | some y =>
          obtain ⟨b, q2⟩ := y
          rw [hq, show byV (some (b, q2)) = .tuple #[.int .u8 (b.toNat : Nat), .string (bs q2), .bool true] from rfl] at H2
          have hb : b.toNat < 256 := b.toNat_lt
          have HR := Lib.hid (show rng s = if a ≤ b then some ((a, b), q2) else none by unfold rng; rw [hm]; simp only [if_true, hq])
          by_cases hab : a ≤ b
          · rw [if_pos hab] at HR
            have hab2 : a.toNat ≤ b.toNat := UInt8.le_iff_toNat_le.1 hab
            have HV := Lib.hid (show (a.toNat = a.toNat) ∧ (b.toNat = b.toNat) from ⟨rfl, rfl⟩)
            have hab3 : ((a.toNat : Nat) : Int) ≤ ((b.toNat : Nat) : Int) := by omega
            clear hm hq hs hrl hab hab2
            generalize 45 :: q = rr at *
            go_enter Try.func47, Try.ntmps47
            go_wp2_with fail
            refine (HB.out _).mono ?_
            rintro e w1 ⟨rfl, m1, rfl⟩
            go_wp2_with fail
            refine (H1.out _).mono ?_
            rintro e w2 ⟨rfl, rfl⟩
            go_wp2_with fail
            refine (H2.out _).mono ?_
            rintro e w3 ⟨rfl, m2, rfl⟩
            go_wp2
            refine bodyPost_ret (results_tmp4 rfl _ _ _) rfl ?_
            unfold RgPost
            rw [HR.out]
            exact ⟨⟨_, rfl⟩, rfl⟩
          · rw [if_neg hab] at HR
            have hab3 : ¬ ((a.toNat : Nat) : Int) ≤ ((b.toNat : Nat) : Int) := fun h => hab (UInt8.le_iff_toNat_le.2 (by omega))
            have hab5 : decide (a.toNat ≤ b.toNat) = false := decide_eq_false (by omega)
            clear hm hq hs hrl hab
            generalize 45 :: q = rr at *
            generalize a.toNat = an at *
            generalize b.toNat = bn at *
            go_enter Try.func47, Try.ntmps47
            go_wp2_with fail
            refine (HB.out _).mono ?_
            rintro e w1 ⟨rfl, m1, rfl⟩
            go_wp2_with fail
            refine (H1.out _).mono ?_
            rintro e w2 ⟨rfl, rfl⟩
            go_wp2_with fail
            refine (H2.out _).mono ?_
            rintro e w3 ⟨rfl, m2, rfl⟩
            go_wp2
            refine bodyPost_ret (results_tmp4 rfl _ _ _) rfl ?_
            unfold RgPost
            rw [HR.out]
            exact ⟨⟨_, rfl⟩, an, bn, q2, ha, hb, rfl⟩
    · have h1 := HC.out r
      rw [(cut1_no 45 r h45).1, (cut1_no 45 r h45).2] at h1
      have H1 := Lib.hid h1
      have HR := Lib.hid (show rng s = some ((a, a), r) by
        unfold rng
        rw [hm]
        cases r with
        | nil => rfl
        | cons d q =>
          have hd : ¬ d = 45 := fun e => h45 (by rw [e]; rfl)
          simp only [if_neg hd])
      clear h1 hm hs hrl h45
      go_enter Try.func47, Try.ntmps47
      go_wp2_with fail
      refine (HB.out _).mono ?_
      rintro e w1 ⟨rfl, m1, rfl⟩
      go_wp2_with fail
      refine (H1.out _).mono ?_
      rintro e w2 ⟨rfl, rfl⟩
      go_wp2
      refine bodyPost_ret (results_tmp4 rfl _ _ _) rfl ?_
      unfold RgPost
      rw [HR.out]
      exact ⟨⟨_, rfl⟩, rfl⟩
end Go.Proofs.Ytmhmipbbbccfgaa
