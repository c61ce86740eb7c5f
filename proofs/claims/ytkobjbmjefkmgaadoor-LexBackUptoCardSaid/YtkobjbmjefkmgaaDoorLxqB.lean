/- The program's isOne and goOn, walked. -/
import Derived.Test.YtkobjbmjefkmgaaDoorLxqA
import Derived.Test.YtkobjbmjefkmgaaDoorShelf
import Derived.Test.YtkobjbmjefkmgaaDoorLib
namespace Go.Proofs.YtkobjbmjefkmgaaDoor
open Go.ChangeShapes Go.WideShapes Go.ChangeAt Go.RowKit K L14
set_option linter.unusedVariables false

theorem ix_has : ∀ (l : List UInt8) (c : UInt8), decide (0 ≤ Lib.indexByte l c) = l.contains c
  | [], c => rfl
  | b :: l, c => by
    have ih := ix_has l c
    have hge := Lib.indexByte_ge l c
    unfold Lib.indexByte
    by_cases h : b = c
    · subst h; simp
    · have hb : (b == c) = false := by simpa using h
      have hcb : (c == b) = false := by rw [beq_eq_false_iff_ne]; exact fun e => h e.symm
      rw [List.contains_cons, hcb, Bool.false_or, ← ih, if_neg (by rw [hb]; decide)]
      by_cases h1 : Lib.indexByte l c = -1
      · rw [if_pos (by rw [h1]; rfl), h1]
      · rw [if_neg (by simpa using h1)]
        exact decide_eq_decide.2 (by omega)
set_option maxRecDepth 100000 in
theorem lone_walk (n : Nat) (l : List UInt8) (w : World) : Calls Tryd.prog 43 #[.int .u8 (n : Nat), .string (bs l)] w fun e w' => e = .returned (.bool (l.contains (UInt8.ofNat n))) ∧ w = w' := by
  have hc := Tryd.strings_IndexByte (bs l) (n : Nat) w
  rw [bs_toList, show ((n : Nat) : Int).toNat.toUInt8 = UInt8.ofNat n from rfl] at hc
  have HC := Lib.hid hc
  have HX := Lib.hid (ix_has l (UInt8.ofNat n))
  generalize Lib.indexByte l (UInt8.ofNat n) = r at *
  clear hc
  go_enter Tryd.func43, Tryd.ntmps43
  go_wp2_with fail
  refine HC.out.mono ?_
  rintro e w1 ⟨rfl, rfl⟩
  go_wp2
  go_ret
  exact ⟨by rw [← HX.out]; rfl, rfl⟩
/-- The bytes that go on with a token of a kind, beside letters and digits. -/
def mks (k : Nat) : List UInt8 := if k = 1 then [95, 45] else if k = 2 then [46] else [46, 95, 45, 35, 64]
theorem go_mks1 : ∀ n : Fin 256, goN 1 n.val = (ltN n.val || dgN n.val || (mks 1).contains (UInt8.ofNat n.val)) := by decide +kernel
theorem go_mks2 : ∀ n : Fin 256, goN 2 n.val = (ltN n.val || dgN n.val || (mks 2).contains (UInt8.ofNat n.val)) := by decide +kernel
theorem go_mks3 : ∀ n : Fin 256, goN 3 n.val = (ltN n.val || dgN n.val || (mks 3).contains (UInt8.ofNat n.val)) := by decide +kernel
theorem go_mks {k : Nat} (hk : k = 1 ∨ k = 2 ∨ k = 3) {n : Nat} (hn : n < 256) : goN k n = (ltN n || dgN n || (mks k).contains (UInt8.ofNat n)) := by
  rcases hk with rfl | rfl | rfl
  · exact go_mks1 ⟨n, hn⟩
  · exact go_mks2 ⟨n, hn⟩
  · exact go_mks3 ⟨n, hn⟩
set_option maxRecDepth 100000 in
theorem lgo_walk (k : Nat) (hk : k = 1 ∨ k = 2 ∨ k = 3) (n : Nat) (hn : n < 256) (w : World) : Calls Tryd.prog 40 #[.string (bs (mks k)), .int .u8 (n : Nat)] w fun e w' => e = .returned (.bool (goN k n)) ∧ w = w' := by
  rw [go_mks hk hn]
  have HL := Lib.hid (fun w1 => lletter_walk n hn w1)
  have HD := Lib.hid (fun w1 => ldigit_walk n hn w1)
  have HO := Lib.hid (fun w1 => lone_walk n (mks k) w1)
  generalize (mks k).contains (UInt8.ofNat n) = bo at *
  generalize mks k = M at *
  clear hk
  cases h1 : ltN n
  · rw [h1] at HL
    cases h2 : dgN n
    · rw [h2] at HD
      clear h1 h2 hn
      go_enter Tryd.func40, Tryd.ntmps40
      go_wp2_with fail
      refine (HL.out _).mono ?_
      rintro e w1 ⟨rfl, rfl⟩
      go_wp2_with fail
      refine (HD.out _).mono ?_
      rintro e w1 ⟨rfl, rfl⟩
      go_wp2_with fail
      refine (HO.out _).mono ?_
      rintro e w1 ⟨rfl, rfl⟩
      go_wp2
      go_ret
      exact ⟨rfl, rfl⟩
    · rw [h2] at HD
      clear h1 h2 hn
      go_enter Tryd.func40, Tryd.ntmps40
      go_wp2_with fail
      refine (HL.out _).mono ?_
      rintro e w1 ⟨rfl, rfl⟩
      go_wp2_with fail
      refine (HD.out _).mono ?_
      rintro e w1 ⟨rfl, rfl⟩
      go_wp2
      go_ret
      exact ⟨rfl, rfl⟩
  · rw [h1] at HL
    clear h1 hn
    go_enter Tryd.func40, Tryd.ntmps40
    go_wp2_with fail
    refine (HL.out _).mono ?_
    rintro e w1 ⟨rfl, rfl⟩
    go_wp2
    go_ret
    exact ⟨rfl, rfl⟩
end Go.Proofs.YtkobjbmjefkmgaaDoor
