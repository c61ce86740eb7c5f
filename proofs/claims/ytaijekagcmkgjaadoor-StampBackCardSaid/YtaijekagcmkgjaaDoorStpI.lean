/- The document's own Span, walked. -/
import Derived.Test.YtaijekagcmkgjaaDoorStpF
import Derived.Test.YtaijekagcmkgjaaDoorStpT
namespace Go.Proofs.YtaijekagcmkgjaaDoor
open Go.ChangeShapes Go.WideShapes Go.ChangeAt Go.RowKit K S3
set_option linter.unusedVariables false

/-- The slices of names and of numbers that Units hands back. -/
def UnitsAt (w : World) (a b : Nat) : Prop := (∀ k, k < 7 → w.cell? ⟨a, k, none⟩ = some (.string (bs (nmU k)))) ∧ ∀ k, k < 7 → w.cell? ⟨b, k, none⟩ = some (.int .i64 (byU k : Nat))
theorem UnitsAt.drew {w w' : World} {a b : Nat} (h : UnitsAt w a b) (d : Drew w w') : UnitsAt w' a b := by
  obtain ⟨n, rfl⟩ := d; exact h
theorem units_walk (w : World) :
    Calls Tryd.prog 36 #[] w fun e w' => ∃ a b, e = .returned (.tuple #[.slice (some ⟨a, 0, none⟩) 7 7, .slice (some ⟨b, 0, none⟩) 7 7]) ∧ UnitsAt w' a b ∧ Below w.heap.size w w' := by
  go_enter Tryd.func36, Tryd.ntmps36
  go_wp2
  go_ret2
  refine ⟨_, _, rfl, ⟨?_, ?_⟩, ((Below.refl _ _).alloc (Nat.le_refl _) _).alloc (by simp) _⟩
  · intro k hk
    rw [cellRow ((Below.heap_alloc _ _ _ (by simp)).trans (rowNew w _))]
    obtain rfl | rfl | rfl | rfl | rfl | rfl | rfl : k = 0 ∨ k = 1 ∨ k = 2 ∨ k = 3 ∨ k = 4 ∨ k = 5 ∨ k = 6 := by omega
    all_goals rfl
  · intro k hk
    have hsz : (w.alloc (.cells #[.string (bs [100]), .string (bs [104]), .string (bs [109]), .string (bs [115]), .string (bs [109, 115]), .string (bs [117, 115]), .string (bs [110, 115])] 9)).heap.size = w.heap.size + 1 := by simp
    have hn := rowNew (w.alloc (.cells #[.string (bs [100]), .string (bs [104]), .string (bs [109]), .string (bs [115]), .string (bs [109, 115]), .string (bs [117, 115]), .string (bs [110, 115])] 9)) (.cells #[.int .i64 86400000000000, .int .i64 3600000000000, .int .i64 60000000000, .int .i64 1000000000, .int .i64 1000000, .int .i64 1000, .int .i64 1] 3)
    rw [hsz] at hn
    refine (cellRow hn k).trans ?_
    obtain rfl | rfl | rfl | rfl | rfl | rfl | rfl : k = 0 ∨ k = 1 ∨ k = 2 ∨ k = 3 ∨ k = 4 ∨ k = 5 ∨ k = 6 := by omega
    all_goals rfl

def DRel (l : List UInt8) (v6 : Value) : Prop := ∃ i, i ≤ l.length ∧ (l.take i).all isD = true ∧ v6 = .int .i64 (i : Nat)
def KRel (l : List UInt8) (wA : World) (v7 : Value) (wr : World) : Prop := ∃ k, k ≤ 7 ∧ v7 = .int .i64 (k : Nat) ∧ Drew wA wr ∧ spGo (unitL.drop k) l = spGo unitL l
set_option maxRecDepth 100000 in
set_option maxHeartbeats 8000000 in
theorem qspan_walk (l : List UInt8) (hl : l.length ≤ 140737488351232) (w : World) :
    Calls Tryd.prog 12 #[.string (bs l)] w fun e w' => e = .returned (.tuple #[.int .i64 (spV l), .int .i64 (spC l)]) ∧ Below w.heap.size w w' := by
  have hsp : spV l = (spGo unitL l).1 ∧ spC l = (spGo unitL l).2 := ⟨rfl, rfl⟩
  have HSP := Lib.hid hsp; clear hsp
  go_enter Tryd.func12, Tryd.ntmps12
  go_wp2_with fail
  refine (units_walk w).mono ?_
  rintro e wA ⟨ua, ub, rfl, hu, hbel⟩
  have HU := Lib.hid hu; clear hu
  go_wp2
  go_loop [6] (fun v6 => DRel l v6) (fun v6 => l.length - (intOf v6).toNat)
  case atStart => exact ⟨0, by omega, rfl, rfl⟩
  case round =>
    obtain ⟨i, hi, ha, rfl⟩ := hrel
    have main : PD l i → True := fun _ => trivial
    by_cases hgo : i < l.length ∧ isDn (byt l i) = true
    · obtain ⟨hlt, hdg⟩ := hgo
      have hta := all_take l i hlt
      rw [ha, hdg] at hta
      have HT := Lib.hid hta
      have hd2 : 48 ≤ byt l i ∧ byt l i ≤ 57 := by simpa [isDn] using hdg
      obtain ⟨d1, d2⟩ := hd2
      clear hta ha hdg main
      go_wp2
      go_round
      case measure => simp [intOf]; omega
      case rel => exact ⟨i + 1, by omega, by rw [HT.out]; rfl, by simp⟩
    · have p : PD l i := ⟨hi, ha, fun h => by cases hk : isDn (byt l i); rfl; exact absurd ⟨h, hk⟩ hgo⟩
      have hex : (((l.length : Nat) : Int) ≤ (i : Int)) ∨ (i < l.length ∧ byt l i < 48) ∨ (i < l.length ∧ 48 ≤ byt l i ∧ 57 < byt l i) := by
        by_cases h : i < l.length
        · have := p.stop h
          unfold isDn at this
          simp at this
          omega
        · left; omega
      have HPD := Lib.hid p
      have hbt := byt_lt l i
      clear ha hgo main p
      rcases hex with hx | ⟨hx, hx2⟩ | ⟨hx, hx2, hx3⟩
      all_goals
        by_cases hbad : i < 1 ∨ 9 < i ∨ (1 < i ∧ byt l 0 = 48)
        · have hb := sp_bad HPD.out hbad
          have HB := Lib.hid hb
          clear hb
          have hbad2 : (i : Int) < 1 ∨ (1 ≤ (i : Int) ∧ 9 < (i : Int)) ∨ (1 < (i : Int) ∧ (i : Int) ≤ 9 ∧ (((byt l 0 : Nat) : Int) == 48) = true) := by
            rw [beq_iff_eq]; omega
          clear hbad
          rcases hbad2 with b1 | ⟨b1, b2⟩ | ⟨b1, b2, b3⟩
          all_goals
            go_wp2
            go_ret2
            rw [HSP.out.1, HSP.out.2, HB.out]
            exact ⟨rfl, hbel⟩
        · have hf := fit_yes HPD.out (by omega) (by omega) (by omega)
          have HF := Lib.hid hf
          have good : (1 ≤ (i : Int) ∧ (i : Int) ≤ 9) ∧ ((i : Int) ≤ 1 ∨ (1 < (i : Int) ∧ (((byt l 0 : Nat) : Int) == 48) = false)) := by
            rw [beq_eq_false_iff_ne]; omega
          obtain ⟨⟨g1, g2⟩, g3⟩ := good
          clear hf hbad
          rcases g3 with g3 | ⟨g3, g4⟩
          all_goals
            go_wp2
            clear hx
            go_loopw [7] (fun v7 wr => KRel l wA v7 wr) (fun v7 wr => 7 - (intOf v7).toNat)
            case atStart => exact ⟨0, by omega, rfl, Drew.refl _, rfl⟩
            case round =>
              obtain ⟨k, hk, rfl, hd, hs⟩ := hrel
              by_cases h7 : k < 7
              · obtain ⟨cn, cb⟩ := HU.out.drew hd
                have c1 := cn k h7
                have c2 := cb k h7
                have hui := unit_in k h7
                obtain ⟨u1, u2, u3, u4⟩ := hui
                have hI7 : (k : Int) < 7 := by omega
                have hIl : (i : Int) ≤ ((l.length : Nat) : Int) := by omega
                have HS := Lib.hid hs
                clear cn cb hs
                by_cases heq : nmU k = l.drop i
                · have hq1 : (nmU k == l.drop i) = true := by rw [beq_iff_eq]; exact heq
                  have hN := fun w1 => qnumber_walk (l.take i) (by rw [List.length_take]; omega) w1
                  have hvl := numI_yes (l.take i) HPD.out.all (by rw [List.length_take]; omega)
                  have hv9 : vl (l.take i) < 1000000000 := by
                    have h1 := vl_lt (l.take i) HPD.out.all
                    have : 10 ^ (l.take i).length ≤ 10 ^ 9 := Nat.pow_le_pow_right (by omega) (by rw [List.length_take]; omega)
                    omega
                  rw [hvl] at hN
                  have hbig := sp_big HPD.out h7 heq HF.out
                  have hyes := sp_yes HPD.out h7 heq HF.out
                  generalize vl (l.take i) = V at *
                  generalize nmU k = nm at *
                  generalize byU k = by' at *
                  have HN := Lib.hid hN
                  have hnz : (((by' : Nat) : Int) == 0) = false := by rw [beq_eq_false_iff_ne]; omega
                  have hqt : IntKind.i64.wrap ((2305843009213693952 : Int).tdiv (by' : Int)) = 2305843009213693952 / (by' : Int) := IntWalk.i64_quo _ _ (by omega)
                  by_cases hb : 2305843009213693952 / by' < V
                  · have hb2 := hbig hb
                    have HB2 := Lib.hid hb2
                    have hb3 : 2305843009213693952 / (by' : Int) < (V : Int) := by
                      have : ((2305843009213693952 / by' : Nat) : Int) < (V : Int) := by omega
                      simpa using this
                    have hb4 : decide ((V : Int) ≤ 2305843009213693952 / (by' : Int)) = false := decide_eq_false (by omega)
                    clear hN hvl hbig hyes hb hb2 heq
                    go_wp2
                    go_quiet ((go_at_call 28; with_reducible refine Calls.quiet_mk (HN.out _)))
                    clear hqt
                    go_wp2
                    go_roundw
                    case measure => simp [intOf]; omega
                    case rel => exact ⟨k + 1, by omega, by simp, hd.trans ⟨_, rfl⟩, by rw [HB2.out.2, ← HB2.out.1, HS.out]⟩
                  · have hb2 := hyes hb
                    have HB2 := Lib.hid hb2
                    have hb3 : (V : Int) ≤ 2305843009213693952 / (by' : Int) := by
                      have : (V : Int) ≤ ((2305843009213693952 / by' : Nat) : Int) := by omega
                      simpa using this
                    have hm : V * by' ≤ 2305843009213693952 := by
                      have h1 : V * by' ≤ 2305843009213693952 / by' * by' := Nat.mul_le_mul_right _ (by omega)
                      exact Nat.le_trans h1 (Nat.div_mul_le_self _ _)
                    have hm' : (V : Int) * (by' : Int) ≤ 2305843009213693952 := by rw [← Int.natCast_mul]; omega
                    have hm0 : 0 ≤ (V : Int) * (by' : Int) := by rw [← Int.natCast_mul]; omega
                    have hmw : IntKind.i64.wrap ((V : Int) * (by' : Int)) = (V : Int) * (by' : Int) := IntWalk.i64_in _ (by omega)
                    clear hN hvl hbig hyes hb hb2 heq hm
                    go_wp2
                    go_quiet ((go_at_call 28; with_reducible refine Calls.quiet_mk (HN.out _)))
                    clear hqt
                    have D1 : Drew wA (wr.drewN nq) := hd.trans ⟨_, rfl⟩
                    have c1' : (wr.drewN nq).cell? ⟨ua, k, none⟩ = some (.string (bs nm)) := c1
                    have c2' : (wr.drewN nq).cell? ⟨ub, k, none⟩ = some (.int .i64 (by' : Nat)) := c2
                    generalize wr.drewN nq = w5 at D1 c1' c2' ⊢
                    go_wp2
                    go_quiet ((go_at_call 28; with_reducible refine Calls.quiet_mk (HN.out _)))
                    go_wp2
                    go_ret2
                    rw [HSP.out.1, HSP.out.2, ← HS.out, HB2.out]
                    exact ⟨by simp, hbel.trans ((D1.trans ⟨_, rfl⟩).below.mono hbel.size)⟩
                · have hq1 : (nmU k == l.drop i) = false := by rw [beq_eq_false_iff_ne]; exact heq
                  have hsk := sp_skip HPD.out h7 heq
                  have HSK := Lib.hid hsk
                  clear heq hsk
                  generalize nmU k = nm at *
                  generalize byU k = by' at *
                  go_wp2
                  go_quiet (fail)
                  go_wp2
                  go_roundw
                  case measure => simp [intOf]; omega
                  case rel => exact ⟨k + 1, by omega, by simp, hd.trans ⟨_, rfl⟩, by rw [← HSK.out, HS.out]⟩
              · obtain rfl : k = 7 := by omega
                have hs2 : spGo unitL l = (0, 30) := hs.symm
                have HS := Lib.hid hs2
                clear hs hs2
                go_wp2
                go_ret2
                rw [HSP.out.1, HSP.out.2, HS.out]
                exact ⟨rfl, hbel.trans (hd.below.mono hbel.size)⟩
end Go.Proofs.YtaijekagcmkgjaaDoor
