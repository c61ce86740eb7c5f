/- utf's Mark, Check and Bytes, walked. -/
import Derived.Test.YtkpcfbadhoiigaaDoorUtfB
import Derived.Test.YtkpcfbadhoiigaaDoorShelf
import Derived.Lib.Strings
namespace Go.Proofs.YtkpcfbadhoiigaaDoor
open Go.ChangeShapes Go.WideShapes Go.ChangeAt Go.RowKit K U4
set_option linter.unusedVariables false

/-! ### A step along a text -/
theorem step_ok {pre : List Nat} {r l : List UInt8} (ha : AllC pre) (h : flat pre ++ r = l) (hf : fOk r = true) : AllC (pre ++ [fC r]) ∧ flat (pre ++ [fC r]) ++ r.drop (fN r) = l := by
  obtain ⟨h1, h2, h3⟩ := of_first hf
  refine ⟨ha.app (AllC.nil.cons h1), ?_⟩
  rw [flat_app, flat_cons, flat_nil, List.append_nil, List.append_assoc, ← h3, h]
theorem step_bad {pre : List Nat} {r l : List UInt8} (ha : AllC pre) (h : flat pre ++ r = l) (hr : r ≠ []) (hf : fOk r = false) : chars l = none := by
  rw [← h, chars_pre ha, chars_bad hr hf]; rfl
theorem step_end {pre : List Nat} {l : List UInt8} (ha : AllC pre) (h : flat pre ++ [] = l) : chars l = some pre := by
  rw [chars_iff]; exact ⟨ha, by rw [← h, List.append_nil]⟩

def KRel (l : List UInt8) (w : World) (g : Nat) (v0 : Value) (wr : World) : Prop :=
  ∃ pre r, AllC pre ∧ flat pre ++ r = l ∧ r.length = g ∧ v0 = .string (bs r) ∧ Dr w wr
set_option maxRecDepth 100000 in
theorem check_walk (l : List UInt8) (hl : l.length ≤ 140737488351232) (w : World) (ht : Leads w) :
    Calls Tryd.prog 28 #[.string (bs l)] w fun e w' => e = .returned (.int .i64 (chE l : Nat)) ∧ Dr w w' := by
  go_enter Tryd.func28, Tryd.ntmps28
  go_wp2
  go_loopg [0] l.length (fun g v0 wr => KRel l w g v0 wr)
  case atStart => exact ⟨[], l, AllC.nil, rfl, rfl, rfl, Dr.refl w⟩
  case round =>
    obtain ⟨pre, r, ha, hp, hg, rfl, hd⟩ := hrel
    have hrl : r.length ≤ l.length := by rw [← hp, List.length_append]; omega
    by_cases hr : r = []
    · subst hr
      have hc := step_end ha hp
      have HE := Lib.hid (chE_some hc).1
      clear hc hp ha hg hrl
      go_wp2
      go_ret
      rw [HE.out]
      exact ⟨rfl, hd⟩
    · have hne : r.isEmpty = false := List.isEmpty_eq_false_iff.2 hr
      have hF := first_walk r (by omega) wr (ht.dr hd)
      cases hf : fOk r
      · have HE := Lib.hid (chE_none (step_bad ha hp hr hf)).1
        obtain ⟨e1, e2, e3⟩ := f_not hf
        rw [e1, e2, e3] at hF
        have HF := Lib.hid hF
        clear hF e1 e2 e3 hp ha hr hg hf
        go_wp2_with fail
        refine HF.out.mono ?_
        rintro e w1 ⟨rfl, d1⟩
        have hd2 := hd.trans d1
        clear d1 hd
        go_wp2
        go_ret
        rw [HE.out]
        exact ⟨rfl, hd2⟩
      · have hfl := fN_le hf
        have hE : fE r = 0 := by unfold fE; rw [hf]; rfl
        rw [hE] at hF
        have HS := Lib.hid (step_ok ha hp hf)
        generalize fC r = C at hF HS
        generalize fN r = N at hF HS hfl
        obtain ⟨n1, n4, nl⟩ := hfl
        have HF := Lib.hid hF
        have HG := Lib.hid hg
        clear hF hE hp ha hr hg hf
        go_wp2_with fail
        refine HF.out.mono ?_
        rintro e w1 ⟨rfl, d1⟩
        have hd2 := hd.trans d1
        clear d1 hd
        go_wp2
        go_roundg (r.drop N).length
        case measure => have := HG.out; rw [List.length_drop]; omega
        case rel => exact ⟨pre ++ [C], r.drop N, HS.out.1, HS.out.2, rfl, rfl, hd2⟩

/-! ### The mark -/
def mk : List UInt8 := [239, 187, 191]
def mkB (l : List UInt8) : Bool := Lib.hasPrefix l mk
def mkT (l : List UInt8) : List UInt8 := Lib.trimPrefix l mk
theorem pre_take (l p : List UInt8) : Lib.hasPrefix l p = (decide (p.length ≤ l.length) && l.take p.length == p) := by
  rw [Bool.eq_iff_iff, Bool.and_eq_true, decide_eq_true_eq, beq_iff_eq]
  unfold Lib.hasPrefix
  rw [List.isPrefixOf_iff_prefix, List.prefix_iff_eq_take]
  constructor
  · intro h
    refine ⟨?_, h.symm⟩
    have := congrArg List.length h
    rw [List.length_take] at this; omega
  · intro h; exact h.2.symm
theorem cutp_walk (l p : List UInt8) (w : World) :
    Calls Tryd.prog 29 #[.string (bs l), .string (bs p)] w fun e w' => e = .returned (.tuple #[.string (bs (Lib.trimPrefix l p)), .bool (Lib.hasPrefix l p)]) ∧ w = w' := by
  have h := Tryd.strings_CutPrefix (bs l) (bs p) w
  rw [bs_toList, bs_toList] at h
  exact h.mono fun _ _ ⟨a, b⟩ => ⟨a, b.symm⟩
/-! ### The bytes of a character -/
theorem run_conv_head {P : Program} (w : World) (src e dst : TypeId) (hs : P.underlying src = some (.slice e)) (he : P.underlying e = some (.int .u8)) (hd : P.underlying dst = some .string)
    {b t : Nat} {C : Array Value} {l : List UInt8} (hC : w.heap[b]? = some (.cells C t (0, 0))) (ht : tailIs C 0 l) (len cap : Nat) (hl : len ≤ l.length) :
    (convert src dst (.slice (some ⟨b, 0, none⟩) len cap)).run P w = .ok (.string (bs (l.take len))) w := by
  rw [run_convert_bytes_arg (P := P) w src e hs he b 0 len cap ((l.take len).map (fun b => (b.toNat : Int))) (by simp [List.length_take]; omega) _ dst hd, strOf_bs]
  intro i hi
  rw [tailCell hC ht i (by omega)]
  simp [byt, List.getD, hi, List.getElem?_eq_getElem (show i < l.length by omega)]
theorem made_head (c : Nat) : made c = b8 (ld (lg c) + c / 64 ^ (lg c - 1)) :: (made c).drop 1 := by
  rcases four c with ⟨h1, e1, e2⟩ | ⟨h1, h2, e1, e2⟩ | ⟨h1, h2, e1, e2⟩ | ⟨h1, e1, e2⟩ <;> rw [e1, e2] <;> simp [ld]
theorem made_next (c i : Nat) (h0 : 1 ≤ i) (h : i < lg c) : (made c).drop i = b8 (128 + c / 64 ^ (lg c - 1 - i) % 64) :: (made c).drop (i + 1) := by
  rcases four c with ⟨h1, e1, e2⟩ | ⟨h1, h2, e1, e2⟩ | ⟨h1, h2, e1, e2⟩ | ⟨h1, e1, e2⟩ <;> rw [e1] at h ⊢ <;> rw [e2]
  · omega
  · obtain rfl : i = 1 := by omega
    simp
  · obtain rfl | rfl : i = 1 ∨ i = 2 := by omega
    all_goals simp
  · obtain rfl | rfl | rfl : i = 1 ∨ i = 2 ∨ i = 3 := by omega
    all_goals simp
theorem lead_small (c : Nat) (h : isC c = true) : (lg c = 1 ∧ c / 64 ^ (lg c - 1) < 128) ∨ (lg c = 2 ∧ c / 64 ^ (lg c - 1) < 32) ∨ (lg c = 3 ∧ c / 64 ^ (lg c - 1) < 16) ∨ (lg c = 4 ∧ c / 64 ^ (lg c - 1) < 8) := by
  have hc := (isC_iff c).1 h
  rcases four c with ⟨h1, e1, e2⟩ | ⟨h1, h2, e1, e2⟩ | ⟨h1, h2, e1, e2⟩ | ⟨h1, e1, e2⟩ <;> rw [e1]
  · left; simp; omega
  · right; left; simp; omega
  · right; right; left; simp; omega
  · right; right; right; simp; omega
theorem or_lead (n q : Nat) (h : (n = 1 ∧ q < 128) ∨ (n = 2 ∧ q < 32) ∨ (n = 3 ∧ q < 16) ∨ (n = 4 ∧ q < 8)) : bits .or .u8 ((ld n : Nat) : Int) ((q : Nat) : Int) = ((b8 (ld n + q)).toNat : Int) := by
  rcases h with ⟨rfl, hq⟩ | ⟨rfl, hq⟩ | ⟨rfl, hq⟩ | ⟨rfl, hq⟩
  · have : ∀ i : Fin 128, bits .or .u8 ((ld 1 : Nat) : Int) (i.val : Int) = ((b8 (ld 1 + i.val)).toNat : Int) := by decide +kernel
    exact this ⟨q, hq⟩
  · have : ∀ i : Fin 32, bits .or .u8 ((ld 2 : Nat) : Int) (i.val : Int) = ((b8 (ld 2 + i.val)).toNat : Int) := by decide +kernel
    exact this ⟨q, hq⟩
  · have : ∀ i : Fin 16, bits .or .u8 ((ld 3 : Nat) : Int) (i.val : Int) = ((b8 (ld 3 + i.val)).toNat : Int) := by decide +kernel
    exact this ⟨q, hq⟩
  · have : ∀ i : Fin 8, bits .or .u8 ((ld 4 : Nat) : Int) (i.val : Int) = ((b8 (ld 4 + i.val)).toNat : Int) := by decide +kernel
    exact this ⟨q, hq⟩
theorem or_tail (q : Nat) : bits .or .u8 128 ((q : Int) % 64) = ((b8 (128 + q % 64)).toNat : Int) := by
  have : ∀ i : Fin 64, bits .or .u8 128 (i.val : Int) = ((b8 (128 + i.val)).toNat : Int) := by decide +kernel
  have h := this ⟨q % 64, by omega⟩
  rw [← h]; simp
theorem and63i (q : Nat) (h : q < 1114112) : bits .and .i64 (q : Int) 63 = (q : Int) % 64 := by
  have h1 : (BitVec.ofInt 64 ((q : Nat) : Int)).toNat = q := by rw [BitVec.toNat_ofInt]; omega
  have h4 : bits .and .i64 (q : Int) 63 = IntKind.i64.wrap (((BitVec.ofInt 64 ((q : Nat) : Int)).toNat &&& (BitVec.ofInt 64 63).toNat : Nat) : Int) := by
    show IntKind.i64.wrap (((BitVec.ofInt 64 ((q : Nat) : Int) &&& BitVec.ofInt 64 63).toNat : Nat) : Int) = _
    rw [BitVec.toNat_and]
  have h2 : (BitVec.ofInt 64 63).toNat = 2 ^ 6 - 1 := by decide
  rw [h4, h1, h2, Nat.and_two_pow_sub_one_eq_mod, IntKind.wrap_i64]
  omega
def byC (c : Int) : Value × Value := if isCi c then (.string (bs (made c.toNat)), .int .i64 0) else (.string (bs []), .int .i64 1)
def BRel (w : World) (c n g : Nat) (v0 v6 : Value) (wr : World) : Prop :=
  ∃ C, g < n ∧ v0 = .int .i64 ((c / 64 ^ (n - 1 - g) : Nat) : Int) ∧ v6 = .int .i64 ((g : Nat) : Int) ∧ wr.heap[w.heap.size]? = some (.cells C 88 (0, 0)) ∧ C.size = 4 ∧ tailIs C (g + 1) ((made c).drop (g + 1) ++ List.replicate (4 - n) 0) ∧ Below w.heap.size w wr
end Go.Proofs.YtkpcfbadhoiigaaDoor
