/- The program's bytes: isOpen, nextByte, rangeByte, nextRange, walked. -/
import Derived.Test.YtmhmipbbbccfgaaGlqP
import Derived.Test.YtmhmipbbbccfgaaGlbA
import Derived.Test.YtmhmipbbbccfgaaShelf
namespace Go.Proofs.Ytmhmipbbbccfgaa
open Go.ChangeShapes Go.WideShapes Go.ChangeAt Go.RowKit K G13
set_option linter.unusedVariables false

theorem gcutp_walk (l p : List UInt8) (w : World) :
    Calls Try.prog 46 #[.string (bs l), .string (bs p)] w fun e w' => e = .returned (.tuple #[.string (bs (Lib.trimPrefix l p)), .bool (Lib.hasPrefix l p)]) ∧ w = w' := by
  have h := Try.strings_CutPrefix (bs l) (bs p) w
  rw [bs_toList, bs_toList] at h
  exact h.mono fun _ _ ⟨a, b⟩ => ⟨a, b.symm⟩
/-- A byte ahead: there, and what stands behind it. -/
theorem cut1_yes (c : UInt8) (t : List UInt8) : Lib.hasPrefix (c :: t) [c] = true ∧ Lib.trimPrefix (c :: t) [c] = t := by
  unfold Lib.trimPrefix Lib.hasPrefix
  simp
theorem cut1_no (c : UInt8) (s : List UInt8) (h : s.head? ≠ some c) : Lib.hasPrefix s [c] = false ∧ Lib.trimPrefix s [c] = s := by
  have e : Lib.hasPrefix s [c] = false := by
    unfold Lib.hasPrefix
    cases s with
    | nil => rfl
    | cons d t =>
      have hd : ¬ c = d := fun e => h (by rw [e]; rfl)
      simp [List.isPrefixOf, hd]
  refine ⟨e, ?_⟩
  unfold Lib.trimPrefix
  first | rw [e] | rw [if_neg (by rw [e]; decide)]
  try rfl
def opn (c : Nat) : Bool := c == 42 || c == 63 || c == 91
theorem isopen_walk (c : Nat) (hc : c < 256) (w : World) : Calls Try.prog 26 #[.int .u8 (c : Nat)] w fun e w' => e = .returned (.bool (opn c)) ∧ w = w' := by
  by_cases h1 : c = 42
  · subst h1
    go_enter Try.func26, Try.ntmps26
    go_wp2
    go_ret
    exact ⟨rfl, rfl⟩
  by_cases h2 : c = 63
  · subst h2
    go_enter Try.func26, Try.ntmps26
    go_wp2
    go_ret
    exact ⟨rfl, rfl⟩
  by_cases h3 : c = 91
  · subst h3
    go_enter Try.func26, Try.ntmps26
    go_wp2
    go_ret
    exact ⟨rfl, rfl⟩
  have e1 : ((c : Int) == 42) = false := by rw [beq_eq_false_iff_ne]; omega
  have e2 : ((c : Int) == 63) = false := by rw [beq_eq_false_iff_ne]; omega
  have e3 : ((c : Int) == 91) = false := by rw [beq_eq_false_iff_ne]; omega
  have HF := Lib.hid (show opn c = false by unfold opn; simp [h1, h2, h3])
  clear h1 h2 h3
  go_enter Try.func26, Try.ntmps26
  go_wp2
  go_ret
  rw [HF.out]
  exact ⟨rfl, rfl⟩
/-- What nextByte, rangeByte answer. -/
def byV (o : Option (UInt8 × List UInt8)) : Value := match o with
  | none => .tuple #[.int .u8 0, .string (bs []), .bool false]
  | some (a, r) => .tuple #[.int .u8 (a.toNat : Nat), .string (bs r), .bool true]
set_option maxRecDepth 100000 in
set_option maxHeartbeats 1000000 in
theorem nextbyte_walk (s : List UInt8) (hs : s.length ≤ 140737488355327) (w : World) :
    Calls Try.prog 29 #[.string (bs s)] w fun e w' => e = .returned (byV (nb13 s)) ∧ ∃ n, w' = w.drewN n := by
  cases s with
  | nil =>
    have HV := Lib.hid (show byV (nb13 []) = .tuple #[.int .u8 0, .string (bs []), .bool false] from rfl)
    have hne : ([] : List UInt8).isEmpty = true := rfl
    go_enter Try.func29, Try.ntmps29
    go_wp2
    go_ret3
    rw [HV.out]
    exact ⟨rfl, 0, rfl⟩
  | cons c t =>
    have hne : (c :: t).isEmpty = false := rfl
    have hb0 : byt (c :: t) 0 = c.toNat := rfl
    have hl0 : (0 : Nat) < (c :: t).length := by simp
    by_cases h1 : c = 92
    · subst h1
      have hx : byt (92 :: t) 0 = 92 := rfl
      cases t with
      | nil =>
        have HV := Lib.hid (show byV (nb13 [92]) = .tuple #[.int .u8 0, .string (bs []), .bool false] from rfl)
        have hte : ([92] : List UInt8).tail.isEmpty = true := rfl
        clear hb0
        go_enter Try.func29, Try.ntmps29
        go_wp2
        go_ret3
        rw [HV.out]
        exact ⟨rfl, 0, rfl⟩
      | cons d q =>
        have HV := Lib.hid (show byV (nb13 (92 :: d :: q)) = .tuple #[.int .u8 (byt (92 :: d :: q).tail 0 : Nat), .string (bs ((92 :: d :: q).drop 2)), .bool true] from rfl)
        have hte : (92 :: d :: q).tail.isEmpty = false := rfl
        have htp : 0 < (92 :: d :: q).tail.length := by simp
        have htq : (1 : Int) ≤ (((92 :: d :: q).tail.length : Nat) : Int) := by simp only [List.tail_cons, List.length_cons]; omega
        have htp3 : 1 < (92 :: d :: q).length := by simp only [List.length_cons]; omega
        clear hb0
        generalize 92 :: d :: q = s at *
        go_enter Try.func29, Try.ntmps29
        go_wp2
        go_quiet (fail)
        go_wp2
        go_ret3
        rw [HV.out]
        refine ⟨?_, _, rfl⟩
        simp
        rw [List.take_of_length_le (by rw [List.length_drop]; omega)]
    · have q1 : (((byt (c :: t) 0 : Nat) : Int) == 92) = false := by
        rw [beq_eq_false_iff_ne, hb0]
        intro e
        exact h1 (UInt8.toNat_inj.1 (by show c.toNat = 92; omega))
      have HV := Lib.hid (show byV (nb13 (c :: t)) = .tuple #[.int .u8 (byt (c :: t) 0 : Nat), .string (bs (c :: t).tail), .bool true] by simp only [nb13, if_neg h1, byV]; rfl)
      have h1l : (1 : Int) ≤ (((c :: t).length : Nat) : Int) := by simp only [List.length_cons]; omega
      clear hb0 h1
      generalize c :: t = s at *
      go_enter Try.func29, Try.ntmps29
      go_wp2
      go_quiet (fail)
      go_wp2
      go_ret3
      rw [HV.out]
      refine ⟨?_, _, rfl⟩
      simp
set_option maxRecDepth 100000 in
set_option maxHeartbeats 1000000 in
theorem rangebyte_walk (s : List UInt8) (hs : s.length ≤ 140737488355327) (w : World) :
    Calls Try.prog 55 #[.string (bs s)] w fun e w' => e = .returned (byV (mem13 s)) ∧ ∃ n, w' = w.drewN n := by
  have HN := Lib.hid (nextbyte_walk s hs w)
  cases s with
  | nil =>
    have hne : ([] : List UInt8).isEmpty = true := rfl
    have HV := Lib.hid (show byV (nb13 []) = byV (mem13 []) from rfl)
    have HZ := Lib.hid (show byV (nb13 []) = .tuple #[.int .u8 0, .string (bs []), .bool false] from rfl)
    rw [HZ.out] at HN
    go_enter Try.func55, Try.ntmps55
    go_wp2_with fail
    refine HN.out.mono ?_
    rintro e w1 ⟨rfl, n1, rfl⟩
    go_wp2
    go_ret3
    rw [← HV.out, HZ.out]
    exact ⟨rfl, n1, rfl⟩
  | cons c t =>
    have hne : (c :: t).isEmpty = false := rfl
    have hb0 : byt (c :: t) 0 = c.toNat := rfl
    have hl0 : (0 : Nat) < (c :: t).length := by simp
    by_cases h1 : c = 93 ∨ c = 45
    · have HV := Lib.hid (show byV (mem13 (c :: t)) = .tuple #[.int .u8 0, .string (bs []), .bool false] by rw [mem_out c t h1]; rfl)
      clear HN
      generalize c :: t = s at *
      rcases h1 with rfl | rfl
      · have h2 : byt s 0 = 93 := hb0
        clear hb0
        go_enter Try.func55, Try.ntmps55
        go_wp2
        go_ret3
        rw [HV.out]
        exact ⟨rfl, 0, rfl⟩
      · have h2 : byt s 0 = 45 := hb0
        clear hb0
        go_enter Try.func55, Try.ntmps55
        go_wp2
        go_ret3
        rw [HV.out]
        exact ⟨rfl, 0, rfl⟩
    · have n1 : ¬ c = 93 := fun h => h1 (.inl h)
      have n2 : ¬ c = 45 := fun h => h1 (.inr h)
      have q1 : (((byt (c :: t) 0 : Nat) : Int) == 93) = false := by rw [beq_eq_false_iff_ne, hb0]; intro e; exact n1 (UInt8.toNat_inj.1 (by show c.toNat = 93; omega))
      have q2 : (((byt (c :: t) 0 : Nat) : Int) == 45) = false := by rw [beq_eq_false_iff_ne, hb0]; intro e; exact n2 (UInt8.toNat_inj.1 (by show c.toNat = 45; omega))
      have HV := Lib.hid (show byV (mem13 (c :: t)) = byV (nb13 (c :: t)) by rw [mem_nb c t n1 n2])
      clear hb0 n1 n2 h1
      obtain ⟨x, y, z, hz⟩ : ∃ x y z, byV (nb13 (c :: t)) = .tuple #[x, y, z] := by
        unfold byV; split <;> exact ⟨_, _, _, rfl⟩
      rw [hz] at HN HV
      clear hz
      generalize c :: t = s at *
      go_enter Try.func55, Try.ntmps55
      go_wp2_with fail
      refine HN.out.mono ?_
      rintro e w1 ⟨rfl, m1, rfl⟩
      go_wp2
      go_ret3
      rw [HV.out]
      exact ⟨rfl, m1, rfl⟩
end Go.Proofs.Ytmhmipbbbccfgaa
