/- Spell, the program's and the document's, walked. -/
import Derived.Test.YtaijekagcmkgjaaDoorStpD
import Derived.Test.YtaijekagcmkgjaaDoorStpI
import Derived.Test.YtaijekagcmkgjaaDoorStpK
namespace Go.Proofs.YtaijekagcmkgjaaDoor
open Go.ChangeShapes Go.WideShapes Go.ChangeAt Go.RowKit K S3
set_option linter.unusedVariables false

/-- The span that spells n. -/
def slGo : List (List UInt8 × Nat) → Nat → List UInt8 × Int
  | [], _ => ([], 1)
  | (u, b) :: r, n => if n % b = 0 then (if 999999999 < n / b then ([], 1) else (Lib.decDigits (n / b) ++ u, 0)) else slGo r n
theorem slGo_no (u : List UInt8) (b : Nat) (r : List (List UInt8 × Nat)) (n : Nat) (h : ¬ n % b = 0) : slGo ((u, b) :: r) n = slGo r n := by simp [slGo, h]
theorem slGo_big (u : List UInt8) (b : Nat) (r : List (List UInt8 × Nat)) (n : Nat) (h : n % b = 0) (h2 : 999999999 < n / b) : slGo ((u, b) :: r) n = ([], 1) := by simp [slGo, h, h2]
theorem slGo_yes (u : List UInt8) (b : Nat) (r : List (List UInt8 × Nat)) (n : Nat) (h : n % b = 0) (h2 : ¬ 999999999 < n / b) : slGo ((u, b) :: r) n = (Lib.decDigits (n / b) ++ u, 0) := by simp [slGo, h, h2]
def slT (n : Nat) : List UInt8 := if n = 0 then [48, 115] else (slGo unitL n).1
def slC (n : Nat) : Int := if n = 0 then 0 else (slGo unitL n).2
theorem dec_len (n : Nat) (h : n ≤ 999999999) : (Lib.decDigits n).length ≤ 9 := (pad_dec 8 n (by omega)).1

theorem spell_no (t : Int) (h : ¬ (0 ≤ t ∧ t ≤ 2305843009213693952)) (w : World) :
    Calls Tryd.prog 17 #[.int .i64 t] w fun e w' => e = .returned (.tuple #[.string (bs []), .int .i64 1]) ∧ w = w' := by
  have hT := fun w1 => isTime_walk t false (by
    by_cases h0 : 0 ≤ t
    · rw [decide_eq_false (by omega : ¬ t ≤ 2305843009213693952)]; simp
    · rw [decide_eq_false h0]; rfl) w1
  have HT := Lib.hid hT; clear hT h
  go_enter Tryd.func17, Tryd.ntmps17
  go_wp2_with fail
  refine (HT.out w).mono ?_
  rintro e w1 ⟨rfl, rfl⟩
  go_wp2
  go_ret2
  exact ⟨rfl, rfl⟩
def LRel (w : World) (n : Nat) (v12 : Value) (wr : World) : Prop := ∃ k, k ≤ 7 ∧ v12 = .int .i64 (k : Nat) ∧ Below w.heap.size w wr ∧ slGo (unitL.drop k) n = slGo unitL n
set_option maxRecDepth 100000 in
set_option maxHeartbeats 4000000 in
theorem spell_yes (n : Nat) (hn : n ≤ 2305843009213693952) (w : World) (hU : Units w) (hP : Pows w) :
    Calls Tryd.prog 17 #[.int .i64 n] w fun e w' => e = .returned (.tuple #[.string (bs (slT n)), .int .i64 (slC n)]) ∧ Below w.heap.size w w' := by
  have hT := fun w1 => isTime_walk (n : Int) true (by rw [decide_eq_true (by omega : (0 : Int) ≤ n), decide_eq_true (by omega : (n : Int) ≤ 2305843009213693952)]; rfl) w1
  have HT := Lib.hid hT
  by_cases h0 : n = 0
  · subst h0
    clear hT
    go_enter Tryd.func17, Tryd.ntmps17
    go_wp2_with fail
    refine (HT.out w).mono ?_
    rintro e w1 ⟨rfl, rfl⟩
    go_wp2
    go_ret2
    exact ⟨rfl, Below.refl _ _⟩
  · have e1 : slT n = (slGo unitL n).1 ∧ slC n = (slGo unitL n).2 := by unfold slT slC; rw [if_neg h0, if_neg h0]; exact ⟨rfl, rfl⟩
    rw [e1.1, e1.2]
    have hz : (((n : Nat) : Int) == 0) = false := by rw [beq_eq_false_iff_ne]; omega
    obtain ⟨R, hR⟩ : ∃ R, R = slGo unitL n := ⟨_, rfl⟩
    rw [← hR]
    have HR := Lib.hid hR
    obtain ⟨tU, fU, hU⟩ := hU
    clear hT e1 h0 hR
    go_enter Tryd.func17, Tryd.ntmps17
    go_wp2_with fail
    refine (HT.out w).mono ?_
    rintro e w1 ⟨rfl, rfl⟩
    go_wp2_with (refine wpList_load_row rfl 47 _ rfl 0 rfl tU UC fU _ hU Tryd.underlying47 rfl (by kernel_rfl) ?_)
    clear hU
    go_loopw [12] (fun v12 wr => LRel w n v12 wr) (fun v12 wr => 7 - (intOf v12).toNat)
    case atStart => exact ⟨0, by omega, rfl, Below.refl _ _, rfl⟩
    case round =>
      obtain ⟨k, hk, rfl, hb, hs⟩ := hrel
      rw [← HR.out] at hs
      by_cases h7 : k < 7
      · have hix := unit_at k h7
        have hui := unit_in k h7
        rw [unit_drop k h7] at hs
        have hsz := hb.size
        have hI7 : (k : Int) < 7 := by omega
        have hPw := hP.below hb
        generalize nmU k = nm at *
        generalize byU k = by' at *
        obtain ⟨u1, u2, u3, u4⟩ := hui
        have hnz : (((by' : Nat) : Int) == 0) = false := by rw [beq_eq_false_iff_ne]; omega
        by_cases hd : n % by' = 0
        · have hm : (((n : Nat) : Int) % (by' : Int) != 0) = false := by
            rw [bne_eq_false_iff_eq, ← Int.natCast_emod, hd]; rfl
          have hqe : ((n / by' : Nat) : Int) = (n : Int) / (by' : Int) := Int.natCast_ediv _ _
          have hq9 : (n : Int) / (by' : Int) ≤ 2305843009213693952 := by
            rw [← hqe]
            have := Nat.div_le_self n by'
            omega
          have hq0 : 0 ≤ (n : Int) / (by' : Int) := by rw [← hqe]; exact Int.natCast_nonneg _
          by_cases hbig : 999999999 < n / by'
          · rw [slGo_big nm by' _ n hd hbig] at hs
            have HS := Lib.hid hs.symm
            have hbI : 999999999 < (n : Int) / (by' : Int) := by rw [← hqe]; omega
            clear hs hd hqe hbig hPw
            go_wp2
            go_ret2
            rw [HS.out]
            exact ⟨rfl, hb.alloc hsz _⟩
          · rw [slGo_yes nm by' _ n hd hbig] at hs
            have HS := Lib.hid hs.symm
            have hbI : (n : Int) / (by' : Int) ≤ 999999999 := by rw [← hqe]; omega
            have hI := fun w1 h => itoa_walk (n / by') (by omega) w1 h
            have hlen := dec_len (n / by') (by omega)
            rw [hqe] at hI
            generalize Lib.decDigits (n / by') = X at *
            have HI := Lib.hid hI
            clear hs hd hqe hbig hI
            go_wp2_with fail
            have hc0 : (wr.alloc (.cells #[.string (bs nm), .int .i64 (by' : Nat)] 46)).cell? ⟨wr.heap.size, 0, none⟩ = some (.string (bs nm)) := cellRow (rowNew _ _) 0
            have hc1 : (wr.alloc (.cells #[.string (bs nm), .int .i64 (by' : Nat)] 46)).cell? ⟨wr.heap.size, 1, none⟩ = some (.int .i64 (by' : Nat)) := cellRow (rowNew _ _) 1
            have hb2 : Below w.heap.size w (wr.alloc (.cells #[.string (bs nm), .int .i64 (by' : Nat)] 46)) := hb.alloc hsz _
            have hP2 := hP.below hb2
            have hlt : wr.heap.size < (wr.alloc (.cells #[.string (bs nm), .int .i64 (by' : Nat)] 46)).heap.size := by simp
            generalize wr.alloc (.cells #[.string (bs nm), .int .i64 (by' : Nat)] 46) = w2 at *
            clear hix hPw
            have hw9 : (-9223372036854775808 : Int) ≤ (n : Int) / (by' : Int) ∧ (n : Int) / (by' : Int) ≤ 9223372036854775807 := by omega
            have hw1 : (0 : Int) ≤ (n : Int) ∧ (n : Int) ≤ 9223372036854775807 ∧ (1 : Int) ≤ (by' : Int) := by omega
            have hcat : (9223372036854775807 < X.length + nm.length) = False := eq_false (by omega)
            have hcat2 : (X.length + nm.length > 9223372036854775807) = False := eq_false (by omega)
            have hneI : ¬ ((by' : Nat) : Int) = 0 := by omega
            have hneN : ¬ by' = 0 := by omega
            have hqt : IntKind.i64.wrap ((n : Int).tdiv (by' : Int)) = (n : Int) / (by' : Int) := IntWalk.i64_quo _ _ hw1
            have hqt2 : IntKind.i64.wrap ((n : Int) / (by' : Int)) = (n : Int) / (by' : Int) := IntWalk.i64_in _ hw9
            go_region_held3 (fun w' => w'.cell? ⟨wr.heap.size, 0, none⟩ = some (.string (bs nm)) ∧ w'.cell? ⟨wr.heap.size, 1, none⟩ = some (.int .i64 (by' : Nat))) (first | exact ⟨hc0, hc1⟩ | exact z1)
              (first | (go_at_call 41; refine (HI.out _ ?_).mono ?_; exact hP2; rintro e x1 ⟨rfl, k1⟩; have z1 := And.intro ((k1.cell (p := ⟨wr.heap.size, 0, none⟩) hlt).trans hc0) ((k1.cell (p := ⟨wr.heap.size, 1, none⟩) hlt).trans hc1)))
            clear hqt hqt2 hneI hneN
            go_wp2
            go_ret2
            rw [HS.out]
            exact ⟨rfl, hb2.trans ((Below.mono (show Below w2.heap.size w2 x1 from ⟨k1.os, k1.tape, k1.output, k1.size, k1.block⟩) hb2.size))⟩
        · rw [slGo_no nm by' _ n hd] at hs
          have HS := Lib.hid hs
          have hm : (((n : Nat) : Int) % (by' : Int) != 0) = true := by
            rw [bne_iff_ne, ← Int.natCast_emod]; omega
          clear hs hd hPw
          go_wp2
          go_roundw
          case measure => simp [intOf]; omega
          case rel => exact ⟨k + 1, by omega, by simp, hb.alloc hsz _, by rw [HS.out, HR.out]⟩
      · obtain rfl : k = 7 := by omega
        have hs2 : R = ([], 1) := hs.symm
        have HS := Lib.hid hs2
        clear hs hs2
        go_wp2
        go_ret2
        rw [HS.out]
        exact ⟨rfl, hb⟩

def TRel (w : World) (N : Nat) (v0 v3 : Value) (wr : World) : Prop :=
  ∃ (q : Nat) (T : List UInt8), q ≤ N ∧ v0 = .int .i64 (q : Nat) ∧ v3 = .string (bs (b8 (48 + q % 10) :: T)) ∧ Lib.decDigits N = Lib.decDigits q ++ T ∧ Below w.heap.size w wr
theorem dec_small (q : Nat) (h : q < 10) : Lib.decDigits q = [b8 (48 + q % 10)] := by
  rw [Lib.decDigits, dif_pos h, Nat.mod_eq_of_lt h]; rfl
theorem dec_big (q : Nat) (h : ¬ q < 10) : Lib.decDigits q = Lib.decDigits (q / 10) ++ [b8 (48 + q % 10)] := by
  rw [Lib.decDigits, dif_neg h]; rfl
set_option maxRecDepth 100000 in
theorem qtext_walk (N : Nat) (hN : N ≤ 999999999) (w : World) :
    Calls Tryd.prog 42 #[.int .i64 N] w fun e w' => e = .returned (.string (bs (Lib.decDigits N))) ∧ Below w.heap.size w w' := by
  have hc1 := run_conv_one (P := Tryd.prog) 59 5 9 Tryd.underlying59 Tryd.underlying5 Tryd.underlying9
  have hlen := dec_len N hN
  obtain ⟨D, hD⟩ : ∃ D, D = Lib.decDigits N := ⟨_, rfl⟩
  rw [← hD] at hlen ⊢
  have HDq := Lib.hid hD; clear hD
  go_enter Tryd.func42, Tryd.ntmps42
  go_wp2
  go_loopw [0, 3] (fun v0 v3 wr => TRel w N v0 v3 wr) (fun v0 v3 wr => (intOf v0).toNat)
  case atStart =>
    refine ⟨N, [], Nat.le_refl _, rfl, ?_, by simp, (Below.refl _ _).alloc (Nat.le_refl _) _⟩
    congr 3
  case round =>
    obtain ⟨q, T, hq, rfl, rfl, he, hb⟩ := hrel
    have hTl : T.length ≤ 9 := by
      have h1 := congrArg List.length he
      have h2 := HDq.out
      rw [← h2] at h1
      rw [List.length_append] at h1; omega
    by_cases h10 : q < 10
    · rw [dec_small q h10] at he
      have hE : D = b8 (48 + q % 10) :: T := by rw [HDq.out, he]; rfl
      rw [← hE]
      clear he hE
      go_wp2
      go_ret
      exact ⟨rfl, hb⟩
    · rw [dec_big q h10, List.append_assoc] at he
      have HE := Lib.hid he
      have hsz := hb.size
      obtain ⟨U, hU⟩ : ∃ U, U = b8 (48 + q % 10) :: T := ⟨_, rfl⟩
      have hUl : U.length ≤ 10 := by rw [hU]; simp; omega
      rw [← hU]
      have HU := Lib.hid hU
      clear he hU
      go_wp2
      go_roundw
      case measure => simp [intOf]; omega
      case rel =>
        refine ⟨q / 10, U, by omega, by simp, ?_, by rw [HE.out, HU.out]; rfl, hb.alloc hsz _⟩
        congr 3

theorem qspell_no (t : Int) (h : ¬ (0 ≤ t ∧ t ≤ 2305843009213693952)) (w : World) :
    Calls Tryd.prog 18 #[.int .i64 t] w fun e w' => e = .returned (.tuple #[.string (bs []), .int .i64 1]) ∧ w = w' := by
  have h2 : t < 0 ∨ (0 ≤ t ∧ 2305843009213693952 < t) := by omega
  clear h
  rcases h2 with a | ⟨a, b⟩
  all_goals
    go_enter Tryd.func18, Tryd.ntmps18
    go_wp2
    go_ret2
    exact ⟨rfl, rfl⟩
def LRel2 (wA : World) (n : Nat) (v6 : Value) (wr : World) : Prop := ∃ k, k ≤ 7 ∧ v6 = .int .i64 (k : Nat) ∧ wA = wr ∧ slGo (unitL.drop k) n = slGo unitL n
set_option maxRecDepth 100000 in
set_option maxHeartbeats 4000000 in
theorem qspell_yes (n : Nat) (hn : n ≤ 2305843009213693952) (w : World) :
    Calls Tryd.prog 18 #[.int .i64 n] w fun e w' => e = .returned (.tuple #[.string (bs (slT n)), .int .i64 (slC n)]) ∧ Below w.heap.size w w' := by
  have hnI : (n : Int) ≤ 2305843009213693952 := by omega
  by_cases h0 : n = 0
  · subst h0
    go_enter Tryd.func18, Tryd.ntmps18
    go_wp2
    go_ret2
    exact ⟨rfl, Below.refl _ _⟩
  · have e1 : slT n = (slGo unitL n).1 ∧ slC n = (slGo unitL n).2 := by unfold slT slC; rw [if_neg h0, if_neg h0]; exact ⟨rfl, rfl⟩
    rw [e1.1, e1.2]
    have hz : (((n : Nat) : Int) == 0) = false := by rw [beq_eq_false_iff_ne]; omega
    obtain ⟨R, hR⟩ : ∃ R, R = slGo unitL n := ⟨_, rfl⟩
    rw [← hR]
    have HR := Lib.hid hR
    clear e1 h0 hR
    go_enter Tryd.func18, Tryd.ntmps18
    go_wp2_with fail
    refine (units_walk w).mono ?_
    rintro e wA ⟨ua, ub, rfl, hu, hbel⟩
    have HUU := Lib.hid hu; clear hu
    go_wp2
    go_loopw [6] (fun v6 wr => LRel2 wA n v6 wr) (fun v6 wr => 7 - (intOf v6).toNat)
    case atStart => exact ⟨0, by omega, rfl, rfl, rfl⟩
    case round =>
      obtain ⟨k, hk, rfl, rfl, hs⟩ := hrel
      rw [← HR.out] at hs
      by_cases h7 : k < 7
      · have hui := unit_in k h7
        have c1 := HUU.out.1 k h7
        have c2 := HUU.out.2 k h7
        rw [unit_drop k h7] at hs
        have hI7 : (k : Int) < 7 := by omega
        have hblt := World.block_lt_of_cell? wA _ c1
        have hblt2 := World.block_lt_of_cell? wA _ c2
        generalize nmU k = nm at *
        generalize byU k = by' at *
        obtain ⟨u1, u2, u3, u4⟩ := hui
        have hnz : (((by' : Nat) : Int) == 0) = false := by rw [beq_eq_false_iff_ne]; omega
        by_cases hd : n % by' = 0
        · have hm : (((n : Nat) : Int) % (by' : Int) != 0) = false := by
            rw [bne_eq_false_iff_eq, ← Int.natCast_emod, hd]; rfl
          have hqe : ((n / by' : Nat) : Int) = (n : Int) / (by' : Int) := Int.natCast_ediv _ _
          have hq9 : (n : Int) / (by' : Int) ≤ 2305843009213693952 := by
            rw [← hqe]
            have := Nat.div_le_self n by'
            omega
          have hq0 : 0 ≤ (n : Int) / (by' : Int) := by rw [← hqe]; exact Int.natCast_nonneg _
          by_cases hbig : 999999999 < n / by'
          · rw [slGo_big nm by' _ n hd hbig] at hs
            have HS := Lib.hid hs.symm
            have hbI : 999999999 < (n : Int) / (by' : Int) := by rw [← hqe]; omega
            clear hs hd hqe hbig
            go_wp2
            go_ret2
            rw [HS.out]
            exact ⟨rfl, hbel⟩
          · rw [slGo_yes nm by' _ n hd hbig] at hs
            have HS := Lib.hid hs.symm
            have hbI : (n : Int) / (by' : Int) ≤ 999999999 := by rw [← hqe]; omega
            have hI := fun w1 => qtext_walk (n / by') (by omega) w1
            have hlen := dec_len (n / by') (by omega)
            rw [hqe] at hI
            generalize Lib.decDigits (n / by') = X at *
            have HI := Lib.hid hI
            clear hs hd hqe hbig hI
            go_wp2_with fail
            have hcat : (9223372036854775807 < X.length + nm.length) = False := eq_false (by omega)
            have hcat2 : (X.length + nm.length > 9223372036854775807) = False := eq_false (by omega)
            have hneI : ¬ ((by' : Nat) : Int) = 0 := by omega
            have hneN : ¬ by' = 0 := by omega
            have hw9 : (-9223372036854775808 : Int) ≤ (n : Int) / (by' : Int) ∧ (n : Int) / (by' : Int) ≤ 9223372036854775807 := by omega
            have hw1 : (0 : Int) ≤ (n : Int) ∧ (n : Int) ≤ 9223372036854775807 ∧ (1 : Int) ≤ (by' : Int) := by omega
            have hqt : IntKind.i64.wrap ((n : Int).tdiv (by' : Int)) = (n : Int) / (by' : Int) := IntWalk.i64_quo _ _ hw1
            have hqt2 : IntKind.i64.wrap ((n : Int) / (by' : Int)) = (n : Int) / (by' : Int) := IntWalk.i64_in _ hw9
            go_region_held3 (fun w' => w'.cell? ⟨ua, k, none⟩ = some (.string (bs nm)) ∧ w'.cell? ⟨ub, k, none⟩ = some (.int .i64 (by' : Nat))) (first | exact ⟨c1, c2⟩ | exact z1)
              (first | (go_at_call 42; refine (HI.out _).mono ?_; rintro e x1 ⟨rfl, k1⟩; have z1 := And.intro ((k1.cell (p := ⟨ua, k, none⟩) hblt).trans c1) ((k1.cell (p := ⟨ub, k, none⟩) hblt2).trans c2)))
            clear hqt hqt2 hneI hneN
            go_wp2
            go_ret2
            rw [HS.out]
            exact ⟨rfl, hbel.trans ((Below.mono (show Below wA.heap.size wA x1 from ⟨k1.os, k1.tape, k1.output, k1.size, k1.block⟩) hbel.size))⟩
        · rw [slGo_no nm by' _ n hd] at hs
          have HS := Lib.hid hs
          have hm : (((n : Nat) : Int) % (by' : Int) != 0) = true := by
            rw [bne_iff_ne, ← Int.natCast_emod]; omega
          clear hs hd
          go_wp2
          go_roundw
          case measure => simp [intOf]; omega
          case rel => exact ⟨k + 1, by omega, by simp, rfl, by rw [HS.out, HR.out]⟩
      · obtain rfl : k = 7 := by omega
        have hs2 : R = ([], 1) := hs.symm
        have HS := Lib.hid hs2
        clear hs hs2
        go_wp2
        go_ret2
        rw [HS.out]
        exact ⟨rfl, hbel⟩
end Go.Proofs.YtaijekagcmkgjaaDoor
