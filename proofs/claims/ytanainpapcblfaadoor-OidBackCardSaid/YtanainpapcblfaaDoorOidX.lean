/- The laws of oid, walked on calls that keep their word: OidReads. -/
import Derived.Test.YtanainpapcblfaaDoorOidC
import Derived.Test.YtanainpapcblfaaDoorOidD
import Derived.Test.YtanainpapcblfaaDoorOidE
import Derived.Test.YtanainpapcblfaaDoorOidF
import Derived.Test.YtanainpapcblfaaDoorOidG
import Derived.Test.YtanainpapcblfaaDoorOidH
import Derived.Test.YtanainpapcblfaaDoorSpo
namespace Go.Proofs.YtanainpapcblfaaDoor
open Go.ChangeShapes Go.WideShapes Go.ChangeAt Go.RowKit K O6
set_option linter.unusedVariables false

/-- What the program's calls are known to answer, in any world of which I. -/
structure OidOk (I : World → Prop) : Prop where
  keep : ∀ a b, I a → Below a.heap.size a b → I b
  arcs : ∀ (s : List UInt8) (w : World), s.length ≤ 1000000 → I w → Calls Tryd.prog 9 #[.string (bs s)] w (ArPost s w)
  text : ∀ (ao : Option Addr) (n cap : Nat) (f : Nat → Int) (w : World) (cs : List Nat), n ≤ 140737488351232 → RdZ w ao n f → (isZ n f = true → n = cs.length ∧ isArcs cs = true ∧ ∀ i, i < n → f i = fz cs i) → I w →
    Calls Tryd.prog 17 #[.slice ao n cap] w fun e w' => e = .returned (.tuple #[.string (bs (if isZ n f then put cs else [])), .int .i64 ((if isZ n f then 0 else 60 : Nat) : Nat)]) ∧ Below w.heap.size w w'
  encode : ∀ (s : List UInt8) (w : World), s.length ≤ 1000000 → I w → Calls Tryd.prog 11 #[.string (bs s)] w fun e w' => e = .returned (.tuple #[.string (bs (enS s)), .int .i64 (arE s : Nat)]) ∧ Below w.heap.size w w'
  decode : ∀ (b : List UInt8) (w : World), b.length ≤ 140737488351232 → I w → Calls Tryd.prog 13 #[.string (bs b)] w fun e w' => e = .returned (.tuple #[.string (bs (deS b)), .int .i64 (deE b : Nat)]) ∧ Below w.heap.size w w'
  within : ∀ (r s : List UInt8) (w : World), r.length ≤ 1000000 → s.length ≤ 1000000 → I w → Calls Tryd.prog 23 #[.string (bs r), .string (bs s)] w fun e w' => e = .returned (.bool (wi r s)) ∧ Below w.heap.size w w'
  less : ∀ (r s : List UInt8) (w : World), r.length ≤ 1000000 → s.length ≤ 1000000 → I w → Calls Tryd.prog 25 #[.string (bs r), .string (bs s)] w fun e w' => e = .returned (.bool (lsZ r s)) ∧ Below w.heap.size w w'
  child : ∀ (s : List UInt8) (x : Int) (w : World), s.length ≤ 1000000 → -9223372036854775808 ≤ x → x ≤ 9223372036854775807 → I w → Calls Tryd.prog 19 #[.string (bs s), .int .i64 x] w fun e w' => e = .returned (.tuple #[.string (bs (chS s x)), .int .i64 (chE s x : Nat)]) ∧ Below w.heap.size w w'
  rest : ∀ (r s : List UInt8) (w : World), r.length ≤ 1000000 → s.length ≤ 1000000 → I w → Calls Tryd.prog 21 #[.string (bs r), .string (bs s)] w fun e w' => e = .returned (.tuple #[.string (bs (rsS r s)), .int .i64 (rsE r s : Nat)]) ∧ Below w.heap.size w w'
theorem works_vals : enS [49, 46, 51, 46, 54, 46, 49] = [43, 6, 1] ∧ arE [49, 46, 51, 46, 54, 46, 49] = 0 ∧ enS [50, 46, 57, 57, 57, 46, 51] = [136, 55, 3] ∧ arE [50, 46, 57, 57, 57, 46, 51] = 0 := by decide +kernel
theorem OidOk.works {I : World → Prop} (K : OidOk I) (w : World) (hw : I w) : Calls Tryd.prog 8 #[] w fun e w' => e = .returned (.bool true) ∧ Below w.heap.size w w' := by
  obtain ⟨v1, v2, v3, v4⟩ := works_vals
  have hA := K.encode [49, 46, 51, 46, 54, 46, 49] w (by simp) hw
  rw [v1, v2] at hA
  have hB := fun w1 (h : I w1) => K.encode [50, 46, 57, 57, 57, 46, 51] w1 (by simp) h
  rw [v3, v4] at hB
  have HA := Lib.hid hA; have HB := Lib.hid hB; have HK := Lib.hid K.keep
  clear hA hB v1 v2 v3 v4 K
  go_enter Tryd.func8, Tryd.ntmps8
  go_wp2_with fail
  refine HA.out.mono ?_
  rintro e w1 ⟨rfl, b1⟩
  go_wp2_with fail
  refine (HB.out w1 (HK.out _ _ hw b1)).mono ?_
  rintro e w2 ⟨rfl, d⟩
  have b2 := b1.trans (d.mono b1.size)
  clear d
  go_wp2
  go_ret
  exact ⟨rfl, b2⟩
set_option maxRecDepth 100000 in
set_option maxHeartbeats 1000000 in
theorem oidReads_walk (I : World → Prop) (K : OidOk I) (s b : List UInt8) (hs : s.length ≤ 140737488351232) (hb : b.length ≤ 140737488351232) (w : World) (hw : I w) :
    Calls Tryd.prog 3 #[.string (bs s), .string (bs b)] w fun e w' => e = .returned (.bool true) ∧ Below w.heap.size w w' := by
  have HW := Lib.hid (fun w1 (h : I w1) => K.works w1 h)
  have HK := Lib.hid K.keep
  by_cases h : 5000 < s.length ∨ 5000 < b.length
  · have hcs : (5000 : Int) < ((s.length : Nat) : Int) ∨ (((s.length : Nat) : Int) ≤ 5000 ∧ (5000 : Int) < ((b.length : Nat) : Int)) := by omega
    clear h K
    rcases hcs with h1 | ⟨h1, h2⟩
    all_goals
      go_enter Tryd.func3, Tryd.ntmps3
      go_wp2_with fail
      refine (HW.out w hw).mono ?_
      rintro e w1 ⟨rfl, b1⟩
      go_wp2
      go_ret
      exact ⟨rfl, b1⟩
  · have h1 : ((s.length : Nat) : Int) ≤ 5000 := by omega
    have h2 : ((b.length : Nat) : Int) ≤ 5000 := by omega
    have HA := Lib.hid (fun w1 (h : I w1) => K.arcs s w1 (by omega) h)
    have HB := Lib.hid (fun w1 => qarcs_walk s hs w1)
    have HC := Lib.hid (fun w1 (h : I w1) => K.encode s w1 (by omega) h)
    have HD := Lib.hid (fun w1 => qencode_walk s hs w1)
    have HE := Lib.hid (fun w1 (h : I w1) => K.decode b w1 hb h)
    have HF := Lib.hid (fun w1 => qdecode_walk b hb w1)
    have hal := arL_len s
    unfold ArPost at HA HB
    generalize arL s = L at *
    generalize arE s = x1 at *
    generalize enS s = x2 at *
    generalize deS b = x3 at *
    generalize deE b = x4 at *
    have hL : L.length ≤ 1000000 := by omega
    have s2 : (x2 == x2) = true := by simp
    have s3 : (x3 == x3) = true := by simp
    have s1 : (((x1 : Nat) : Int) == ((x1 : Nat) : Int)) = true := by simp
    have s4 : (((x4 : Nat) : Int) == ((x4 : Nat) : Int)) = true := by simp
    clear h K
    go_enter Tryd.func3, Tryd.ntmps3
    go_wp2_with fail
    refine (HA.out w hw).mono ?_
    rintro e w1 ⟨v1, rfl, o1, b1⟩
    obtain ⟨ao1, cap1, rfl, rm1⟩ := Room.of o1
    have HL := Lib.hid (blk_lt rm1)
    clear rm1
    go_wp2_with fail
    refine (HB.out w1).mono ?_
    rintro e w2 ⟨v2, rfl, o2, d⟩
    have b2 := b1.trans (d.mono b1.size)
    have o1 := o1.below d
    clear d
    go_wp2_with fail
    refine (HC.out w2 (HK.out _ _ hw b2)).mono ?_
    rintro e w3 ⟨rfl, d⟩
    have b3 := b2.trans (d.mono b2.size)
    have o1 := o1.below d
    have o2 := o2.below d
    clear d
    go_wp2_with fail
    refine (HD.out w3).mono ?_
    rintro e w4 ⟨rfl, d⟩
    have b4 := b3.trans (d.mono b3.size)
    have o1 := o1.below d
    have o2 := o2.below d
    clear d
    go_wp2_with fail
    refine (HE.out w4 (HK.out _ _ hw b4)).mono ?_
    rintro e w5 ⟨rfl, d⟩
    have b5 := b4.trans (d.mono b4.size)
    have o1 := o1.below d
    have o2 := o2.below d
    clear d
    go_wp2_with fail
    refine (HF.out w5).mono ?_
    rintro e w6 ⟨rfl, d⟩
    have b6 := b5.trans (d.mono b5.size)
    have o1 := o1.below d
    have o2 := o2.below d
    clear d b1 b2 b3 b4 b5
    go_wp2_with fail
    refine (same_walk L hL _ v2 w6 (RdI.of o1) (RdI.of o2)).mono ?_
    rintro e w7 ⟨rfl, m, rfl⟩
    have b7 := Below_drewNg b6 m
    have o1 := o1.drewN m
    have o2 := o2.drewN m
    generalize w6.drewN m = w7 at b7 o1 o2 ⊢
    obtain ⟨ao3, cap3, he3, rm3⟩ := Room.of o1
    cases he3
    clear b6
    go_wp2_with fail
    refine (spoilK_walk ao1 _ cap1 hL w.heap.size w7 rm3).mono ?_
    rintro e w8 ⟨rfl, d, kk⟩
    have b8 := b7.trans d
    have o2 := own_spoil o2 kk HL.out
    clear d kk b7 rm3 o1
    go_wp2_with fail
    refine (HA.out w8 (HK.out _ _ hw b8)).mono ?_
    rintro e w9 ⟨v9, rfl, o9, d⟩
    have b9 := b8.trans (d.mono b8.size)
    have o2 := o2.below d
    clear d b8
    go_wp2_with fail
    refine (same_walk L hL v9 v2 w9 (RdI.of o9) (RdI.of o2)).mono ?_
    rintro e w10 ⟨rfl, m2, rfl⟩
    have b10 := Below_drewNg b9 m2
    generalize w9.drewN m2 = w10 at b10 ⊢
    clear b9 o9 o2
    go_wp2_with fail
    refine (HW.out w10 (HK.out _ _ hw b10)).mono ?_
    rintro e w11 ⟨rfl, d⟩
    have b11 := b10.trans (d.mono b10.size)
    go_wp2
    go_ret
    exact ⟨rfl, b11⟩
end Go.Proofs.YtanainpapcblfaaDoor
