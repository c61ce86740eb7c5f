/- The program's sets of bytes, four words each: has, add, others, walked. -/
import Derived.Test.YtmhmipbbbccfgaaGlqB
import Derived.Test.YtmhmipbbbccfgaaRow
import Derived.Laws.Bits64b
namespace Go.Proofs.Ytmhmipbbbccfgaa
open Go.ChangeShapes Go.WideShapes Go.ChangeAt Go.RowKit K G13
set_option linter.unusedVariables false

/-- A set's words. -/
def wV (f : Nat → Bool) (k : Nat) : Value := .int .u64 ((wd f k : Nat) : Int)
def wArr (f : Nat → Bool) : Array Value := #[wV f 0, wV f 1, wV f 2, wV f 3]
theorem wArr_size (f : Nat → Bool) : (wArr f).size = 4 := rfl
theorem wArr_get (f : Nat → Bool) (k : Nat) (h : k < 4) : (wArr f)[k]? = some (wV f k) := by
  have : k = 0 ∨ k = 1 ∨ k = 2 ∨ k = 3 := by omega
  rcases this with rfl | rfl | rfl | rfl <;> rfl
theorem wArr_congr {f g : Nat → Bool} (h : ∀ i, i < 256 → f i = g i) : wArr f = wArr g := by
  have e : ∀ k, k < 4 → wV f k = wV g k := fun k hk => by unfold wV; rw [wd_congr (g := g) fun i hi => h _ (by omega)]
  unfold wArr; rw [e 0 (by omega), e 1 (by omega), e 2 (by omega), e 3 (by omega)]
theorem wArr_none : wArr (fun _ => false) = #[.int .u64 0, .int .u64 0, .int .u64 0, .int .u64 0] := by
  unfold wArr wV; simp only [wd_zero]; rfl
/-- One byte more: just its word is another one. -/
theorem wArr_or (f : Nat → Bool) (c : Nat) (hc : c < 256) (tl : Array Value) : (wArr f ++ tl).setIfInBounds (c / 64) (wV (orB f c) (c / 64)) = wArr (orB f c) ++ tl := by
  have h4 : c / 64 < 4 := by omega
  have hs : (wArr f ++ tl).size = 4 + tl.size := by rw [Array.size_append, wArr_size]
  apply Array.ext_getElem?
  intro i
  rw [Array.getElem?_setIfInBounds, hs]
  by_cases hi : i < 4
  · rw [Array.getElem?_append_left (by rw [wArr_size]; exact hi), wArr_get _ i hi]
    by_cases he : c / 64 = i
    · rw [if_pos he, if_pos (by omega), he, Array.getElem?_append_left (by rw [wArr_size]; exact hi), wArr_get _ i hi]
    · rw [if_neg he, Array.getElem?_append_left (by rw [wArr_size]; exact hi), wArr_get _ i hi]
      unfold wV; rw [wd_else f c i (fun e => he e.symm)]
  · rw [if_neg (by omega), Array.getElem?_append_right (by rw [wArr_size]; omega), Array.getElem?_append_right (by rw [wArr_size]; omega), wArr_size, wArr_size]
theorem hs_walk (f : Nat → Bool) (b o c : Nat) (hc : c < 256) (w : World) (h : ∀ k, k < 4 → w.cell? ⟨b, o + k, none⟩ = some (wV f k)) :
    Calls Try.prog 25 #[.pointer (some ⟨b, o, none⟩), .int .u8 (c : Nat)] w fun e w' => e = .returned (.bool (f c)) ∧ w = w' := by
  have h1 := h (c / 64) (by omega)
  have hlt : c / 64 < 4 := by omega
  have hr : c % 64 < 64 := by omega
  have hv := wd_has f c
  have hb := wd_lt f (c / 64)
  unfold wV at h1
  clear h
  have HV := Lib.hid hv
  generalize wd f (c / 64) = W at *
  have he : bits .and .u64 ((W : Int) / 2 ^ (c % 64)) 1 = ((W / 2 ^ (c % 64) % 2 : Nat) : Int) := by
    have e1 : (W : Int) / 2 ^ (c % 64) = ((W / 2 ^ (c % 64) : Nat) : Int) := by
      rw [Int.natCast_ediv, Int.natCast_pow]; rfl
    have e2 : W / 2 ^ (c % 64) ≤ W := Nat.div_le_self _ _
    rw [e1, show (1 : Int) = ((1 : Nat) : Int) from rfl, bits_and_u64_nat _ _ (by omega) (by decide), Nat.and_one_is_mod]
  have HE := Lib.hid he
  clear he hv
  go_enter Try.func25, Try.ntmps25
  go_wp2
  go_ret
  rw [HE.out]
  refine ⟨?_, rfl⟩
  rw [← HV.out]
  show Ending.returned (.bool (((W / 2 ^ (c % 64) % 2 : Nat) : Int) == 1)) = _
  congr 2
  rw [Bool.eq_iff_iff, beq_iff_eq, decide_eq_true_eq]; omega
/-- A block whose first four cells are a set's words. -/
def SetB (w : World) (b : Nat) (T : TypeId) (f : Nat → Bool) (tl : Array Value) : Prop := w.heap[b]? = some (.cells (wArr f ++ tl) T (0, 0))
set_option maxRecDepth 100000 in
set_option maxHeartbeats 1000000 in
theorem add_walk (f : Nat → Bool) (b : Nat) (T : TypeId) (tl : Array Value) (x y : Nat) (hy : y < 256) (hxy : x ≤ y) (w : World) (h : SetB w b T f tl) :
    Calls Try.prog 38 #[.pointer (some ⟨b, 0, none⟩), .int .u8 (x : Nat), .int .u8 (y : Nat)] w fun e w' => e = .returned (.tuple #[]) ∧ Kp [b] w w' ∧ SetB w' b T (orR f x (y + 1)) tl := by
  have H0 := Lib.hid (show SetB w b T (orR f x x) tl by rw [orR_none]; exact h)
  clear h
  go_enter Try.func38, Try.ntmps38
  go_wp2
  go_loopg [6] (y + 1 - x) (fun g v6 wr => ∃ i : Nat, i + g = y + 1 ∧ x ≤ i ∧ v6 = .int .i64 (i : Nat) ∧ SetB wr b T (orR f x i) tl ∧ Kp [b] w wr)
  case atStart => exact ⟨x, by omega, Nat.le_refl _, rfl, H0.out, Kp.refl _ _⟩
  case round =>
    obtain ⟨i, hig, hxi, rfl, hS, hk⟩ := hrel
    clear H0
    cases gk with
    | zero =>
      obtain rfl : i = y + 1 := by omega
      have HS := Lib.hid hS
      have HK := Lib.hid hk
      clear hS hk
      go_wp2
      (try simp only [Exit.inBlock, Exit.then])
      refine bodyPost_end (results_none rfl _ _ _) rfl ?_
      exact ⟨rfl, HK.out, HS.out⟩
    | succ g =>
      have hiy : i ≤ y := by omega
      have hw := wd_or (orR f x i) i
      rw [orR_more f x i hxi] at hw
      have hset := rowSet hS (i / 64) (wV (orR f x (i + 1)) (i / 64))
      rw [← orR_more f x i hxi, wArr_or _ _ (by omega), orR_more f x i hxi] at hset
      have hc := cellRow hS (i / 64)
      rw [Array.getElem?_append_left (by rw [wArr_size]; omega), wArr_get _ _ (by omega)] at hc
      have hf := freeRow hS (i / 64)
      have h4 : i / 64 < 4 := by omega
      have h4i : (i : Int) / 64 < 4 := by omega
      have h4j : 0 ≤ (i : Int) / 64 := by omega
      have hqt : IntKind.i64.wrap ((i : Int).tdiv 64) = (i : Int) / 64 := IntWalk.i64_quo _ _ ⟨by omega, by omega, by omega⟩
      have hiyI : (i : Int) ≤ (y : Int) := by omega
      unfold wV at hc
      have hWl := wd_lt (orR f x i) (i / 64)
      generalize wd (orR f x i) (i / 64) = W at *
      have hval : bits .or .u64 (W : Int) (IntKind.u64.wrap (2 ^ (i % 64))) = ((wd (orR f x (i + 1)) (i / 64) : Nat) : Int) := by
        have hp : 2 ^ (i % 64) < 2 ^ 64 := Nat.pow_lt_pow_right (by decide) (by omega)
        have e0 : (2 : Int) ^ (i % 64) = ((2 ^ (i % 64) : Nat) : Int) := (Int.natCast_pow 2 (i % 64)).symm
        rw [e0]
        generalize 2 ^ (i % 64) = P at hp hw ⊢
        have e : IntKind.u64.wrap (P : Int) = (P : Int) := by
          rw [IntKind.wrap_u64]; omega
        rw [e, bits_or_u64_nat _ _ hWl hp, hw]
      have HVAL := Lib.hid hval
      have HST := Lib.hid hset; have HK := Lib.hid hk
      clear hset hk hS hval hw
      go_wp2_with fail
      go_region
      rw [HVAL.out]
      have HB2 := Lib.hid (HK.out.set ⟨b, i / 64, none⟩ (by simp) (wV (orR f x (i + 1)) (i / 64))).drew
      go_wp2
      go_roundg g
      case measure => omega
      case rel => exact ⟨i + 1, by omega, by omega, by simp, HST.out, HB2.out⟩
set_option maxRecDepth 100000 in
set_option maxHeartbeats 1000000 in
theorem others_walk (f : Nat → Bool) (w : World) :
    Calls Try.prog 36 #[.agg (wArr f)] w fun e w' => e = .returned (.agg (wArr fun i => !f i)) ∧ Below w.heap.size w w' := by
  have hn : ∀ k, bits .xor .u64 IntKind.u64.max (wd f k : Nat) = ((wd (fun i => !f i) k : Nat) : Int) := by
    intro k
    have hl := wd_lt f k
    rw [← wd_not]
    generalize wd f k = a at *
    have h1 : BitVec.ofInt 64 IntKind.u64.max = BitVec.allOnes 64 := by decide
    have h2 : (BitVec.ofInt 64 (a : Int)).toNat = a := by
      rw [BitVec.ofInt_natCast, BitVec.toNat_ofNat]; exact Nat.mod_eq_of_lt (by omega)
    show IntKind.u64.wrap ((BitVec.ofInt 64 IntKind.u64.max ^^^ BitVec.ofInt 64 (a : Int)).toNat : Int) = _
    rw [h1, BitVec.allOnes_xor, BitVec.toNat_not, h2, IntKind.wrap_u64]
    omega
  unfold wArr wV
  have h0 := wd_lt f 0; have h1 := wd_lt f 1; have h2 := wd_lt f 2; have h3 := wd_lt f 3
  have n0 := hn 0; have n1 := hn 1; have n2 := hn 2; have n3 := hn 3
  clear hn
  generalize wd f 0 = a0 at *; generalize wd f 1 = a1 at *; generalize wd f 2 = a2 at *; generalize wd f 3 = a3 at *
  go_enter Try.func36, Try.ntmps36
  go_wp2
  (refine wp_loop_rounds 5 ?_; repeat any_goals (rw [rounds_succ]; go_wp2))
  all_goals
    refine bodyPost_ret (results_cell_row rfl _ _ (w.heap.size + 1) _ _ _ _ rfl (heap_alloc2_new w _ _) Try.underlying50 rfl (by kernel_rfl)) rfl ?_
    exact ⟨rfl, ((Below.refl _ _).alloc (Nat.le_refl _) _).alloc (by rw [World.size_alloc]; omega) _⟩
end Go.Proofs.Ytmhmipbbbccfgaa
