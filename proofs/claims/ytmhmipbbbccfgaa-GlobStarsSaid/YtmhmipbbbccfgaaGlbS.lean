/- GlobStars, walked on calls that keep their word. -/
import Derived.Test.YtmhmipbbbccfgaaGlbW
import Derived.Test.YtmhmipbbbccfgaaBook
import Derived.Test.YtmhmipbbbccfgaaShelf
import Derived.Lib.Strings
import Derived.Lib.IndexMore
namespace Go.Proofs.Ytmhmipbbbccfgaa
open Go.ChangeShapes Go.WideShapes Go.ChangeAt Go.RowKit K G13
set_option linter.unusedVariables false

theorem contains_holds (s p : List UInt8) : Lib.contains s p = mt (Pc.any :: (p.map Pc.one ++ [Pc.any])) s := by
  rw [Bool.eq_iff_iff, mt_holds]
  unfold Lib.contains
  rw [decide_eq_true_eq]
  constructor
  · intro h
    rcases Lib.index_spec s p with ⟨h1, _⟩ | ⟨i, h1, h2, h3, _⟩
    · omega
    · unfold Lib.occAt at h3
      obtain ⟨t, ht⟩ := List.isPrefixOf_iff_prefix.1 h3
      exact ⟨s.take i, t, by rw [ht, List.take_append_drop]⟩
  · rintro ⟨a, b, rfl⟩
    rcases Lib.index_spec (a ++ (p ++ b)) p with ⟨_, h⟩ | ⟨i, h1, _⟩
    · have := h a.length (by simp)
      unfold Lib.occAt at this
      rw [List.drop_left] at this
      have h2 : p.isPrefixOf (p ++ b) = true := List.isPrefixOf_iff_prefix.2 ⟨b, rfl⟩
      rw [h2] at this; cases this
    · omega
theorem rep_one (b : UInt8) : ∀ n, Lib.repeatL (bs [b]).data.toList n = List.replicate n b
  | 0 => rfl
  | n + 1 => by
    rw [Lib.repeatL, rep_one b n, bs_toList]; rfl
theorem rep_bs (b : UInt8) (n : Nat) : (⟨(Lib.repeatL (bs [b]).data.toList n).toArray⟩ : ByteArray) = bs (List.replicate n b) := by
  rw [rep_one]; rfl
theorem pieces_stars (n : Nat) : pieces (List.replicate n 42) = some (List.replicate n Pc.any) := pcs_stars n _ (by rw [List.length_replicate]; omega)
theorem pieces_asks (n : Nat) : pieces (List.replicate n 63) = some (List.replicate n (Pc.set fun _ => true)) := pcs_asks n _ (by rw [List.length_replicate]; omega)
theorem eG_of {p : List UInt8} {l : List Pc} (h : pieces p = some l) (hl : p.length ≤ 256) (s : List UInt8) : eG p = 0 ∧ mG p s = mt l s := by
  have h0 : eG p = 0 := by unfold eG; rw [if_neg (by omega), h]; rfl
  refine ⟨h0, ?_⟩
  unfold mG lG
  rw [h0, if_pos rfl, h]; rfl
/-- strings.Contains keeps its word in a world of which I. -/
def HCont (I : World → Prop) : Prop := ∀ (s p : List UInt8) (w : World), I w → s.length ≤ 10000 → Calls Try.prog 20 #[.string (bs s), .string (bs p)] w fun e w' => e = .returned (.bool (Lib.contains s p)) ∧ Below w.heap.size w w'
set_option maxRecDepth 100000 in
set_option maxHeartbeats 1000000 in
theorem globStars_walk (I : World → Prop) (PR : World → Nat → List UInt8 → Prop) (F : GOk I PR) (KC : HCont I) (many : Int) (h0 : -9223372036854775808 ≤ many) (h1 : many ≤ 9223372036854775807) (s part : List UInt8) (hs : s.length ≤ 140737488351232) (hp : part.length ≤ 140737488351232) (w : World) (hw : I w) :
    Calls Try.prog 6 #[.int .i64 many, .string (bs s), .string (bs part)] w fun e w' => e = .returned (.bool true) ∧ Below w.heap.size w w' := by
  have HW := Lib.hid (works13_walk I PR F w hw)
  have HI := Lib.hid (fun wx (b : Below w.heap.size w wx) => F.keepI w wx hw b)
  have HF := Lib.hid F
  clear F
  have hb := belowN_bounds many 200 (by omega)
  have HBL := Lib.hid (fun wx => below_walk many 200 h0 h1 (by omega) (by omega) wx)
  obtain ⟨k, hk⟩ : ∃ k : Nat, belowN many 200 = ((k : Nat) : Int) := ⟨(belowN many 200).toNat, by omega⟩
  rw [hk] at HBL hb
  have hk2 : k < 200 := by omega
  clear hk hb h0 h1
  by_cases h2 : 200 < s.length
  · have e1 : (200 : Int) < ((s.length : Nat) : Int) := by omega
    clear h2
    go_enter Try.func6, Try.ntmps6
    go_wp2_with fail
    refine HW.out.mono ?_
    rintro e w1 ⟨rfl, b1⟩
    go_wp2
    go_ret
    exact ⟨rfl, b1⟩
  have e1 : ¬ (200 : Int) < ((s.length : Nat) : Int) := by omega
  by_cases h3 : 100 < part.length
  · have e2 : (100 : Int) < ((part.length : Nat) : Int) := by omega
    clear h2 h3
    go_enter Try.func6, Try.ntmps6
    go_wp2_with fail
    refine HW.out.mono ?_
    rintro e w1 ⟨rfl, b1⟩
    go_wp2
    go_ret
    exact ⟨rfl, b1⟩
  have e2 : ¬ (100 : Int) < ((part.length : Nat) : Int) := by omega
  have hel := esc_len part
  obtain ⟨q1, q2⟩ := eG_of (pieces_stars (k + 1)) (by rw [List.length_replicate]; omega) s
  rw [mt_stars] at q2
  obtain ⟨q3, q4⟩ := eG_of (pieces_asks k) (by rw [List.length_replicate]; omega) s
  rw [mt_asks] at q4
  obtain ⟨q5, q6⟩ := eG_of (pieces_holds part) (by simp only [List.length_cons, List.length_append, List.length_nil]; omega) s
  rw [← contains_holds] at q6
  have hMA := fun wx (b : Below w.heap.size w wx) => HF.out.matchP (List.replicate (k + 1) 42) s wx (by rw [List.length_replicate]; omega) (by omega) (HI.out wx b)
  have hMB := fun wx (b : Below w.heap.size w wx) => HF.out.matchP (List.replicate k 63) s wx (by rw [List.length_replicate]; omega) (by omega) (HI.out wx b)
  have hMC := fun wx (b : Below w.heap.size w wx) => HF.out.matchP (42 :: (esc13 part ++ [42])) s wx (by simp only [List.length_cons, List.length_append, List.length_nil]; omega) (by omega) (HI.out wx b)
  rw [q1, q2] at hMA
  rw [q3, q4] at hMB
  rw [q5, q6] at hMC
  have HMA := Lib.hid hMA
  have HMC := Lib.hid hMC
  have HE := Lib.hid (fun wx (b : Below w.heap.size w wx) => HF.out.escape part wx (by omega) (HI.out wx b))
  have HC := Lib.hid (fun wx (b : Below w.heap.size w wx) => KC s part wx (HI.out wx b) (by omega))
  have HRA := Lib.hid (fun wx => Try.strings_Repeat (bs [42]) (k + 1) wx (by omega) (by rw [bs_size]; simp only [List.length_cons, List.length_nil]; omega))
  have HRB := Lib.hid (fun wx => Try.strings_Repeat (bs [63]) k wx (by omega) (by rw [bs_size]; simp only [List.length_cons, List.length_nil]; omega))
  rw [rep_bs] at HRA HRB
  have hsum : IntKind.i64.wrap (1 + ((k : Nat) : Int)) = ((k + 1 : Nat) : Int) := by rw [IntWalk.i64_in _ (by omega)]; omega
  have hcat : ({ data := #[42] } : ByteArray) ++ bs (esc13 part) = bs (42 :: esc13 part) := bs_append [42] _
  have hcat2 : bs (42 :: esc13 part) ++ ({ data := #[42] } : ByteArray) = bs (42 :: (esc13 part ++ [42])) := bs_append _ [42]
  obtain ⟨v, hv, hvT, hvF⟩ : ∃ v : Bool, (s.length == k) = v ∧ (v = true → (s.length : Int) = ((k : Nat) : Int)) ∧ (v = false → ¬ (s.length : Int) = ((k : Nat) : Int)) := by
    refine ⟨_, rfl, fun h => ?_, fun h => ?_⟩
    · have := beq_iff_eq.1 h; omega
    · have := beq_eq_false_iff_ne.1 h; omega
  rw [hv] at hMB
  have HMB := Lib.hid hMB
  have HVT := Lib.hid hvT
  have HVF := Lib.hid hvF
  clear hv hvT hvF
  have hep : (esc13 part).length ≤ 200 := by omega
  have hep2 : (42 :: esc13 part).length ≤ 201 := by rw [List.length_cons]; omega
  clear q1 q2 q3 q4 q5 q6 hMA hMB hMC hel h2 h3 KC
  generalize Lib.contains s part = Z at *
  generalize esc13 part = EP at *
  generalize List.replicate (k + 1) 42 = RA at *
  generalize List.replicate k 63 = RB at *
  go_enter Try.func6, Try.ntmps6
  go_wp2_with fail
  refine HW.out.mono ?_
  rintro e w1 ⟨rfl, b1⟩
  go_wp2_with fail
  refine (HBL.out _).mono ?_
  rintro e _ ⟨rfl, rfl⟩
  go_wp2_with fail
  refine (HRA.out _).mono ?_
  rintro e w2 ⟨rfl, d2⟩
  have b2 := b1.trans (d2.mono b1.size)
  clear d2 hsum
  go_wp2_with fail
  refine (HMA.out _ b2).mono ?_
  rintro e w3 ⟨rfl, d3⟩
  have b3 := b2.trans (d3.mono b2.size)
  clear d3
  go_wp2_with fail
  refine (HRB.out _).mono ?_
  rintro e w4 ⟨rfl, d4⟩
  have b4 := b3.trans (d4.mono b3.size)
  clear d4
  go_wp2_with fail
  refine (HMB.out _ b4).mono ?_
  rintro e w5 ⟨rfl, d5⟩
  have b5 := b4.trans (d5.mono b4.size)
  clear d5
  go_wp2_with fail
  refine (HE.out _ b5).mono ?_
  rintro e w6 ⟨rfl, d6⟩
  have b6 := b5.trans (d6.mono b5.size)
  clear d6
  go_wp2_with fail
  refine (HMC.out _ b6).mono ?_
  rintro e w7 ⟨rfl, d7⟩
  have b7 := b6.trans (d7.mono b6.size)
  clear d7 hcat hcat2
  cases v
  · have hl2 := HVF.out rfl
    go_wp2_with fail
    refine (HC.out _ b7).mono ?_
    rintro e w8 ⟨rfl, d8⟩
    have b8 := b7.trans (d8.mono b7.size)
    cases Z
    · go_wp2
      go_ret
      refine ⟨?_, b8⟩
      show Ending.returned (.bool (!((s.length : Int) == ((k : Nat) : Int)))) = _
      rw [beq_eq_false_iff_ne.2 hl2]; rfl
    · go_wp2
      go_ret
      refine ⟨?_, b8⟩
      show Ending.returned (.bool (!((s.length : Int) == ((k : Nat) : Int)))) = _
      rw [beq_eq_false_iff_ne.2 hl2]; rfl
  · have hl2 := HVT.out rfl
    go_wp2_with fail
    refine (HC.out _ b7).mono ?_
    rintro e w8 ⟨rfl, d8⟩
    have b8 := b7.trans (d8.mono b7.size)
    cases Z
    · go_wp2
      go_ret
      exact ⟨rfl, b8⟩
    · go_wp2
      go_ret
      exact ⟨rfl, b8⟩
end Go.Proofs.Ytmhmipbbbccfgaa
