/- The document's skip, walked. gen_lexe.py writes it. -/
import Derived.Test.YtkobjbmjefkmgaaDoorLexD
namespace Go.Proofs.YtkobjbmjefkmgaaDoor
open Go.ChangeShapes Go.WideShapes Go.ChangeAt Go.RowKit K L14
set_option linter.unusedVariables false

def SkRel (s : List UInt8) (w : World) (g : Nat) (v3 v4 : Value) (wx : World) : Prop :=
  wx = w ∧ ∃ i r, i ≤ s.length ∧ s.length - i ≤ g ∧ v3 = .int .i64 (i : Nat) ∧ v4 = .bool r ∧ skp false s = i + skp r (s.drop i)
theorem skp_go (r r2 : Bool) (c : UInt8) (t : List UInt8) (h : (r || c == 35 || blN c.toNat) = true) (h2 : (if c = 10 then false else if c = 35 then true else r) = r2) : skp r (c :: t) = skp r2 t + 1 := by
  simp only [skp, h, if_true, h2]
theorem skp_no (r : Bool) (c : UInt8) (t : List UInt8) (h : (r || c == 35 || blN c.toNat) = false) : skp r (c :: t) = 0 := by
  simp only [skp, h, Bool.false_eq_true, if_false]
set_option maxRecDepth 100000 in
set_option maxHeartbeats 1000000 in
theorem qskip_walk (s : List UInt8) (hs : s.length ≤ 1000000) (w : World) : Calls Tryd.prog 22 #[.string (bs s)] w fun e w' => e = .returned (.int .i64 (skp false s : Nat)) ∧ w = w' := by
  have H0 := Lib.hid (show SkRel s w s.length (.int .i64 (0 : Nat)) (.bool false) w from ⟨rfl, 0, false, by omega, by omega, rfl, rfl, by rw [List.drop_zero]; omega⟩)
  go_enter Tryd.func22, Tryd.ntmps22
  go_wp2
  go_loopg [3, 4] s.length (fun g v3 v4 wx => SkRel s w g v3 v4 wx)
  case atStart => exact H0.out
  case round =>
    obtain ⟨rfl, i, r, hil, hig, rfl, rfl, hsk⟩ := hrel
    clear H0
    by_cases hi : i < s.length
    · obtain ⟨G, rfl⟩ : ∃ G, gk = G + 1 := ⟨gk - 1, by omega⟩
      have hdr : s.drop i = s[i] :: s.drop (i + 1) := List.drop_eq_getElem_cons hi
      rw [hdr] at hsk
      have hby : byt s i = s[i].toNat := byt_get s i hi
      have hi2 : ((i : Nat) : Int) < ((s.length : Nat) : Int) := by omega
      generalize s[i] = c at *
      have hnx : ∀ r2, skp r (c :: s.drop (i + 1)) = skp r2 (s.drop (i + 1)) + 1 → SkRel s wr G (.int .i64 ((i : Nat) + 1)) (.bool r2) wr := fun r2 h => ⟨rfl, i + 1, r2, by omega, by omega, rfl, rfl, by rw [hsk, h]; omega⟩
      cases r
      · by_cases c0 : c = 35
        · have hb : byt s i = 35 := by rw [hby, c0]; rfl
          have HX := Lib.hid (hnx true (skp_go false true c _ (by rw [c0]; decide) (by rw [c0]; decide)))
          clear hnx hsk hdr hby c0
          go_wp2
          go_roundg G
          case measure => omega
          case rel => exact HX.out
        by_cases c1 : c = 10
        · have hb : byt s i = 10 := by rw [hby, c1]; rfl
          have HX := Lib.hid (hnx false (skp_go false false c _ (by rw [c1]; decide) (by rw [c1]; decide)))
          clear hnx hsk hdr hby c0 c1
          go_wp2
          go_roundg G
          case measure => omega
          case rel => exact HX.out
        by_cases c2 : c = 32
        · have hb : byt s i = 32 := by rw [hby, c2]; rfl
          have HX := Lib.hid (hnx false (skp_go false false c _ (by rw [c2]; decide) (by rw [c2]; decide)))
          clear hnx hsk hdr hby c0 c1 c2
          go_wp2
          go_roundg G
          case measure => omega
          case rel => exact HX.out
        by_cases c3 : c = 9
        · have hb : byt s i = 9 := by rw [hby, c3]; rfl
          have HX := Lib.hid (hnx false (skp_go false false c _ (by rw [c3]; decide) (by rw [c3]; decide)))
          clear hnx hsk hdr hby c0 c1 c2 c3
          go_wp2
          go_roundg G
          case measure => omega
          case rel => exact HX.out
        by_cases c4 : c = 13
        · have hb : byt s i = 13 := by rw [hby, c4]; rfl
          have HX := Lib.hid (hnx false (skp_go false false c _ (by rw [c4]; decide) (by rw [c4]; decide)))
          clear hnx hsk hdr hby c0 c1 c2 c3 c4
          go_wp2
          go_roundg G
          case measure => omega
          case rel => exact HX.out
        have hcn : ∀ k : Nat, k < 256 → c ≠ UInt8.ofNat k → (((byt s i : Nat) : Int) == (k : Int)) = false := fun k hk hne => by
          rw [beq_eq_false_iff_ne]
          intro e
          apply hne
          apply UInt8.toNat_inj.1
          rw [UInt8.toNat_ofNat']
          rw [hby] at e
          omega
        have n35 : (((byt s i : Nat) : Int) == 35) = false := hcn 35 (by decide) c0
        have n10 : (((byt s i : Nat) : Int) == 10) = false := hcn 10 (by decide) c1
        have n32 : (((byt s i : Nat) : Int) == 32) = false := hcn 32 (by decide) c2
        have n9 : (((byt s i : Nat) : Int) == 9) = false := hcn 9 (by decide) c3
        have n13 : (((byt s i : Nat) : Int) == 13) = false := hcn 13 (by decide) c4
        have HX := Lib.hid (show skp false s = i by
          rw [hsk, skp_no false c _ (by
            rw [show (c == 35) = false from beq_eq_false_iff_ne.2 c0]
            unfold blN
            simp only [Bool.false_or, Bool.or_eq_false_iff, beq_eq_false_iff_ne]
            refine ⟨⟨⟨?_, ?_⟩, ?_⟩, ?_⟩
            · intro e; exact c2 (UInt8.toNat_inj.1 e)
            · intro e; exact c3 (UInt8.toNat_inj.1 e)
            · intro e; exact c1 (UInt8.toNat_inj.1 e)
            · intro e; exact c4 (UInt8.toNat_inj.1 e))]
          omega)
        clear hnx hsk hdr hby c0 c1 c2 c3 c4 hcn
        go_wp2
        go_ret
        rw [HX.out]
        exact ⟨rfl, rfl⟩
      · by_cases c1 : c = 10
        · have hb : byt s i = 10 := by rw [hby, c1]; rfl
          have HX := Lib.hid (hnx false (skp_go true false c _ (by rw [c1]; decide) (by rw [c1]; decide)))
          clear hnx hsk hdr hby c1
          go_wp2
          go_roundg G
          case measure => omega
          case rel => exact HX.out
        by_cases c0 : c = 35
        · have hb : byt s i = 35 := by rw [hby, c0]; rfl
          have HX := Lib.hid (hnx true (skp_go true true c _ (by rw [c0]; decide) (by rw [c0]; decide)))
          clear hnx hsk hdr hby c1 c0
          go_wp2
          go_roundg G
          case measure => omega
          case rel => exact HX.out
        have hcn : ∀ k : Nat, k < 256 → c ≠ UInt8.ofNat k → (((byt s i : Nat) : Int) == (k : Int)) = false := fun k hk hne => by
          rw [beq_eq_false_iff_ne]
          intro e
          apply hne
          apply UInt8.toNat_inj.1
          rw [UInt8.toNat_ofNat']
          rw [hby] at e
          omega
        have n35 : (((byt s i : Nat) : Int) == 35) = false := hcn 35 (by decide) c0
        have n10 : (((byt s i : Nat) : Int) == 10) = false := hcn 10 (by decide) c1
        have HX := Lib.hid (hnx true (skp_go true true c _ rfl (by rw [if_neg c1, if_neg c0])))
        clear hnx hsk hdr hby c1 c0 hcn
        go_wp2
        go_roundg G
        case measure => omega
        case rel => exact HX.out
    · have hi2 : ¬ ((i : Nat) : Int) < ((s.length : Nat) : Int) := by omega
      rw [show s.drop i = [] from List.drop_eq_nil_of_le (by omega)] at hsk
      have HX := Lib.hid (show skp false s = i by rw [hsk]; simp [skp])
      clear hsk
      go_wp2
      go_ret
      rw [HX.out]
      exact ⟨rfl, rfl⟩
end Go.Proofs.YtkobjbmjefkmgaaDoor
