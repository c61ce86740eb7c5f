/- Texts on the program and on the document, joined: UtfB, UtfC. -/
import Derived.Test.YtonippapkmmkeaaDoorMa06
import Derived.Outline
import Derived.Test.YtonippapkmmkeaaDoorShelf
import Derived.Lib.Strings
/- utf.joined and utf.First, walked. -/
namespace Go.Proofs.YtonippapkmmkeaaDoor
open Go.ChangeShapes Go.WideShapes Go.ChangeAt Go.RowKit K U4
set_option linter.unusedVariables false

theorem acc_le (l : List UInt8) (n : Nat) : acc l n 0 < 256 ∧ acc l n 1 < 16384 ∧ acc l n 2 < 1048576 ∧ acc l n 3 < 67108864 := by
  have h := byt_lt l 0
  simp only [acc]; omega
theorem acc_lt (l : List UInt8) (n i : Nat) (h : i ≤ 3) : acc l n i < 67108864 := by
  obtain ⟨a, b, c, d⟩ := acc_le l n
  obtain rfl | rfl | rfl | rfl : i = 0 ∨ i = 1 ∨ i = 2 ∨ i = 3 := by omega
  all_goals omega
theorem acc_lt2 (l : List UInt8) (n i : Nat) (h : i ≤ 2) : acc l n i < 1048576 := by
  obtain ⟨a, b, c, d⟩ := acc_le l n
  obtain rfl | rfl | rfl : i = 0 ∨ i = 1 ∨ i = 2 := by omega
  all_goals omega
theorem or64 (X b : Nat) (hX : X < 1048576) (hb : b < 64) : bits .or .i64 ((X : Int) * 64) ((b : Nat) : Int) = ((X * 64 + b : Nat) : Int) := by
  have h1 : (BitVec.ofInt 64 ((X : Int) * 64)).toNat = 2 ^ 6 * X := by
    rw [BitVec.toNat_ofInt]; omega
  have h2 : (BitVec.ofInt 64 ((b : Nat) : Int)).toNat = b := by
    rw [BitVec.toNat_ofInt]; omega
  have h4 : bits .or .i64 ((X : Int) * 64) ((b : Nat) : Int) = IntKind.i64.wrap (((BitVec.ofInt 64 ((X : Int) * 64)).toNat ||| (BitVec.ofInt 64 ((b : Nat) : Int)).toNat : Nat) : Int) := by
    show IntKind.i64.wrap (((BitVec.ofInt 64 ((X : Int) * 64) ||| BitVec.ofInt 64 ((b : Nat) : Int)).toNat : Nat) : Int) = _
    rw [BitVec.toNat_or]
  rw [h4, h1, h2, ← Nat.two_pow_add_eq_or_of_lt (by omega), IntKind.wrap_i64]
  omega
theorem ld_le {b n : Nat} (h : lead b = n) : ld n ≤ b := by
  rcases lead4 b with ⟨g, e⟩ | ⟨g, g', e⟩ | ⟨g, g', e⟩ | ⟨g, e⟩ <;> rw [e] at h <;> subst h <;> simp [ld] <;> omega
theorem folls_break {l : List UInt8} {k : Nat} : ∀ {n : Nat}, k < n → foll (byt l (k + 1)) = false → folls l n = false
  | 0, h, _ => by omega
  | n + 1, h, hf => by
    unfold folls
    by_cases e : k = n
    · subst e; rw [hf, Bool.and_false]
    · rw [folls_break (n := n) (by omega) hf, Bool.false_and]
def JRel (l : List UInt8) (n : Nat) (w : World) (g : Nat) (v4 v5 v6 : Value) (wr : World) : Prop :=
  ∃ j, j + 1 + g = n ∧ v6 = .int .i64 ((j + 1 : Nat) : Int) ∧ v4 = .int .i64 ((acc l n j : Nat) : Int) ∧ folls l j = true ∧ v5 = .bool false ∧ wr = w
set_option maxRecDepth 100000 in
theorem joined_walk (l : List UInt8) (hl : l.length ≤ 140737488351232) (n : Nat) (hn : lead (byt l 0) = n) (h1 : 1 ≤ n) (h4 : n ≤ 4) (w : World) (ht : Leads w) :
    Calls Tryd.prog 72 #[.string (bs l), .int .i64 n] w fun e w' => e = .returned (.tuple #[.int .i64 (jv l n : Nat), .bool (jok l n)]) ∧ ∃ m, w' = w.drewN m := by
  by_cases hlen : n ≤ l.length
  · have hcell := ht (n - 1) (by omega)
    rw [show n - 1 + 1 = n by omega] at hcell
    have hb0 := byt_lt l 0
    have hle := ld_le hn
    have hsub : IntKind.u8.wrap (((byt l 0 : Nat) : Int) - ((ld n : Nat) : Int)) = ((acc l n 0 : Nat) : Int) := by
      show _ = ((byt l 0 - ld n : Nat) : Int)
      simp [IntKind.wrap, IntKind.signed, IntKind.bits]; omega
    have hacc := acc_lt l n 0 (by omega)
    have hs1 : IntKind.i64.wrap ((n : Int) - 1) = (n : Int) - 1 := IntWalk.i64_in _ (by omega)
    have hs2 : (0 : Int) ≤ (n : Int) - 1 := by omega
    have hs3 : ((n : Int) - 1).toNat = n - 1 := by omega
    have hs4 : (n : Int) - 1 < 4 := by omega
    have hpos : 0 < l.length := by omega
    have hd0 : decide (l.length < n) = false := decide_eq_false (by omega)
    go_enter Tryd.func72, Tryd.ntmps72
    go_wp2_with fail
    clear hs2 hle hn ht
    go_quiet (fail)
    clear hs1 hs3 hs4 hsub hcell
    generalize hw5 : w.drewN nq = w5
    have HD := Lib.hid hw5
    clear hw5
    go_wp2
    go_loopg [4, 5, 6] (n - 1) (fun g v4 v5 v6 wr => JRel l n w5 g v4 v5 v6 wr)
    case atStart => exact ⟨0, by omega, rfl, rfl, rfl, rfl, rfl⟩
    case round =>
      obtain ⟨j, hjn, rfl, rfl, hf, rfl, rfl⟩ := hrel
      cases gk with
      | zero =>
        obtain rfl : j + 1 = n := by omega
        have hj : jok l (j + 1) = true := by unfold jok; rw [decide_eq_true hlen, Nat.add_sub_cancel, hf]; rfl
        have hv : jv l (j + 1) = acc l (j + 1) j := by unfold jv; rw [hj]; rfl
        have HJ := Lib.hid hj
        have HV := Lib.hid hv
        clear hj hv hf
        go_wp2
        go_ret2
        rw [HJ.out, HV.out]
        exact ⟨rfl, nq, HD.out.symm⟩
      | succ g =>
        have hb := byt_lt l (j + 1)
        have hjl : j + 1 < l.length := by omega
        have hF := follows_walk (byt l (j + 1)) hb
        cases hfo : foll (byt l (j + 1))
        · have hj : jok l n = false := by unfold jok; rw [folls_break (n := n - 1) (by omega) hfo, Bool.and_false]
          have hv : jv l n = 0 := by unfold jv; rw [hj]; rfl
          have HJ := Lib.hid hj
          have HV := Lib.hid hv
          rw [hfo] at hF
          have HF := Lib.hid hF
          clear hj hv hf hfo hF
          go_wp2_with fail
          refine (HF.out _).mono ?_
          rintro e w1 ⟨rfl, rfl⟩
          go_wp2
          go_ret2
          rw [HJ.out, HV.out]
          exact ⟨rfl, nq, HD.out.symm⟩
        · have ha := and63 (byt l (j + 1)) hb
          have hX := acc_lt2 l n j (by omega)
          have ho : bits .or .i64 (((acc l n j : Nat) : Int) * 64) (((byt l (j + 1) : Nat) : Int) % 64) = ((acc l n (j + 1) : Nat) : Int) := or64 (acc l n j) (byt l (j + 1) % 64) hX (by omega)
          have hfs : folls l (j + 1) = true := by unfold folls; rw [hf, hfo]; rfl
          have HFS := Lib.hid hfs
          rw [hfo] at hF
          have HF := Lib.hid hF
          clear hfs hF hfo hf
          go_wp2_with fail
          refine (HF.out _).mono ?_
          rintro e w1 ⟨rfl, rfl⟩
          go_wp2
          go_roundg g
          case measure => omega
          case rel =>
            exact ⟨j + 1, by omega, by simp, rfl, HFS.out, rfl, rfl⟩
  · have hj : jok l n = false := by unfold jok; rw [decide_eq_false hlen, Bool.false_and]
    have hv : jv l n = 0 := by unfold jv; rw [hj]; rfl
    rw [hj, hv]
    have hlen' : (l.length : Int) < (n : Int) := by omega
    clear hlen hj hv hn
    go_enter Tryd.func72, Tryd.ntmps72
    go_wp2
    go_ret2
    exact ⟨rfl, 0, rfl⟩
/-- Only the order of reading was drawn. -/
def Dr (w w' : World) : Prop := ∃ n, w' = w.drewN n
theorem Dr.refl (w : World) : Dr w w := ⟨0, rfl⟩
theorem Dr.trans {a b c : World} (h : Dr a b) (k : Dr b c) : Dr a c := by
  obtain ⟨n, rfl⟩ := h; obtain ⟨m, rfl⟩ := k
  exact ⟨n + m, by unfold World.drewN; simp [Nat.add_assoc]⟩
theorem Dr.below {a b : World} (h : Dr a b) : Below a.heap.size a b := by
  obtain ⟨n, rfl⟩ := h; exact ⟨rfl, rfl, rfl, Nat.le_refl _, fun _ _ => rfl⟩
theorem Leads.dr {w w' : World} (h : Leads w) (k : Dr w w') : Leads w' := by
  obtain ⟨n, rfl⟩ := k; exact h
def FRel (b : Nat) (w : World) (g : Nat) (v3 : Value) (wr : World) : Prop :=
  ∃ k, lead b + g = k ∧ k ≤ 4 ∧ v3 = .int .i64 ((k : Nat) : Int) ∧ Dr w wr
theorem lead_pos (b : Nat) : 1 ≤ lead b ∧ lead b ≤ 4 := by
  rcases lead4 b with ⟨_, e⟩ | ⟨_, _, e⟩ | ⟨_, _, e⟩ | ⟨_, e⟩ <;> omega
theorem ld_gt {b k : Nat} (h : lead b < k) (h4 : k ≤ 4) : b < ld k := by
  rcases lead4 b with ⟨g, e⟩ | ⟨g, g', e⟩ | ⟨g, g', e⟩ | ⟨g, e⟩ <;> rw [e] at h
  all_goals
    obtain rfl | rfl | rfl : k = 2 ∨ k = 3 ∨ k = 4 := by omega
    all_goals simp [ld]; omega
theorem fOk_jok {l : List UInt8} (h : jok l (lead (byt l 0)) = false) : fOk l = false := by
  unfold fOk; rw [h, Bool.false_and, Bool.and_false]
theorem fOk_isC {l : List UInt8} (h : isC (jv l (lead (byt l 0))) = false) : fOk l = false := by
  unfold fOk; rw [h, Bool.false_and, Bool.and_false, Bool.and_false]
theorem fOk_lg {l : List UInt8} (h : lg (jv l (lead (byt l 0))) ≠ lead (byt l 0)) : fOk l = false := by
  unfold fOk; rw [beq_eq_false_iff_ne.2 h, Bool.and_false, Bool.and_false, Bool.and_false]
theorem f_not {l : List UInt8} (h : fOk l = false) : fC l = 0 ∧ fN l = 0 ∧ fE l = 40 := by
  unfold fC fN fE; rw [h]; exact ⟨rfl, rfl, rfl⟩
theorem fOk_nil : fOk [] = false := rfl
theorem jv_lt (l : List UInt8) {n : Nat} (h : n ≤ 4) : jv l n < 67108864 := by
  unfold jv
  by_cases hj : jok l n = true
  · rw [if_pos hj]; exact acc_lt l n _ (by omega)
  · rw [if_neg hj]; omega
set_option maxRecDepth 100000 in
theorem first_walk (l : List UInt8) (hl : l.length ≤ 140737488351232) (w : World) (ht : Leads w) :
    Calls Tryd.prog 54 #[.string (bs l)] w fun e w' => e = .returned (.tuple #[.int .i64 (fC l : Nat), .int .i64 (fN l : Nat), .int .i64 (fE l : Nat)]) ∧ Dr w w' := by
  by_cases hn : l = []
  · subst hn
    obtain ⟨e1, e2, e3⟩ := f_not fOk_nil
    rw [e1, e2, e3]
    clear e1 e2 e3
    go_enter Tryd.func54, Tryd.ntmps54
    go_wp2
    go_ret3
    exact ⟨rfl, Dr.refl w⟩
  · have hpos : 0 < l.length := List.length_pos_iff.2 hn
    have hem : l.isEmpty = false := List.isEmpty_eq_false_iff.2 hn
    have hJ := fun w1 (h : Leads w1) => joined_walk l hl (lead (byt l 0)) rfl (lead_pos _).1 (lead_pos _).2 w1 h
    have hb0 := byt_lt l 0
    have hlp := lead_pos (byt l 0)
    have HJ := Lib.hid hJ
    have HN := Lib.hid hn
    clear hJ hn
    obtain ⟨hp1, hp4⟩ := hlp
    go_enter Tryd.func54, Tryd.ntmps54
    go_wp2_with fail
    have HEM := Lib.hid hem
    clear hem
    go_loopg [3] (4 - lead (byt l 0)) (fun g v3 wr => FRel (byt l 0) w g v3 wr)
    case atStart => exact ⟨4, by omega, by omega, rfl, Dr.refl w⟩
    case round =>
      obtain ⟨k, hk, hk4, rfl, hd⟩ := hrel
      have hcell := (ht.dr hd) (k - 1) (by omega)
      rw [show k - 1 + 1 = k by omega] at hcell
      have hs1 : IntKind.i64.wrap ((k : Int) - 1) = (k : Int) - 1 := IntWalk.i64_in _ (by omega)
      have hs3 : ((k : Int) - 1).toNat = k - 1 := by omega
      have hs4 : (k : Int) - 1 < 4 := by omega
      have hs5 : (0 : Int) ≤ (k : Int) - 1 := by omega
      cases gk with
      | zero =>
        obtain rfl : k = lead (byt l 0) := by omega
        have hle := ld_le (b := byt l 0) (n := lead (byt l 0)) rfl
        have hlt : decide (byt l 0 < ld (lead (byt l 0))) = false := decide_eq_false (by omega)
        go_wp2_with fail
        go_quiet (fail)
        have hd2 : Dr w (wr.drewN nq) := hd.trans ⟨nq, rfl⟩
        have ht2 := ht.dr hd2
        clear hd hcell hs1 hs3 hs4 hs5 hle hlt ht
        generalize wr.drewN nq = w5 at hd2 ht2
        have HOK := Lib.hid (show fOk l = (jok l (lead (byt l 0)) && (isC (jv l (lead (byt l 0))) && lg (jv l (lead (byt l 0))) == lead (byt l 0))) by unfold fOk; rw [HEM.out]; rfl)
        have HFC := Lib.hid (show fC l = if fOk l then jv l (lead (byt l 0)) else 0 from rfl)
        have HFN := Lib.hid (show fN l = if fOk l then lead (byt l 0) else 0 from rfl)
        have HFE := Lib.hid (show fE l = if fOk l then 0 else 40 from rfl)
        have hjv := jv_lt l hp4
        generalize jv l (lead (byt l 0)) = V at HJ HOK HFC hjv
        generalize jok l (lead (byt l 0)) = J at HJ HOK
        generalize lead (byt l 0) = L at *
        have hC := fun w1 => isCh_walk (V : Int) w1
        rw [isCi_nat] at hC
        have HC := Lib.hid hC
        have HL := Lib.hid (fun w1 => long_walk V w1)
        clear hC
        go_wp2_with fail
        refine (HJ.out w5 ht2).mono ?_
        rintro e w6 ⟨rfl, m, rfl⟩
        have hd3 := hd2.trans ⟨m, rfl⟩
        clear hd2 ht2 HJ
        generalize w5.drewN m = w6 at hd3
        cases J with
        | false =>
          have hno : fOk l = false := by rw [HOK.out]; rfl
          have HNO := Lib.hid hno
          clear hno
          go_wp2
          go_ret3
          rw [HFC.out, HFN.out, HFE.out, HNO.out]
          exact ⟨rfl, hd3⟩
        | true =>
          cases hic : isC V with
          | false =>
            have hno : fOk l = false := by rw [HOK.out, hic]; rfl
            have HNO := Lib.hid hno
            have hC := HC.out
            rw [hic] at hC
            have HC2 := Lib.hid hC
            clear hno hC hic
            go_wp2_with fail
            refine (HC2.out _).mono ?_
            rintro e w1 ⟨rfl, rfl⟩
            go_wp2
            go_ret3
            rw [HFC.out, HFN.out, HFE.out, HNO.out]
            exact ⟨rfl, hd3⟩
          | true =>
            have hC := HC.out
            rw [hic] at hC
            have HC2 := Lib.hid hC
            by_cases hlg : lg V = L
            · have hno : fOk l = true := by rw [HOK.out, hic, hlg]; simp
              have HNO := Lib.hid hno
              have hLL := HL.out
              rw [hlg] at hLL
              have HL2 := Lib.hid hLL
              clear hno hC hic hlg hLL
              go_wp2_with fail
              refine (HC2.out _).mono ?_
              rintro e w1 ⟨rfl, rfl⟩
              go_wp2_with fail
              refine (HL2.out _).mono ?_
              rintro e w1 ⟨rfl, rfl⟩
              go_wp2
              go_ret3
              rw [HFC.out, HFN.out, HFE.out, HNO.out]
              exact ⟨rfl, hd3⟩
            · have hno : fOk l = false := by rw [HOK.out, hic, beq_eq_false_iff_ne.2 hlg]; rfl
              have HNO := Lib.hid hno
              have hq : (((lg V : Nat) : Int) != ((L : Nat) : Int)) = true := by rw [bne_iff_ne]; omega
              generalize lg V = G at *
              clear hno hC hic hlg
              go_wp2_with fail
              refine (HC2.out _).mono ?_
              rintro e w1 ⟨rfl, rfl⟩
              go_wp2_with fail
              refine (HL.out _).mono ?_
              rintro e w1 ⟨rfl, rfl⟩
              go_wp2
              go_ret3
              rw [HFC.out, HFN.out, HFE.out, HNO.out]
              exact ⟨rfl, hd3⟩
      | succ g =>
        have hgt := ld_gt (b := byt l 0) (k := k) (by omega) hk4
        have hlt : decide (byt l 0 < ld k) = true := decide_eq_true hgt
        clear hgt
        go_wp2_with fail
        go_quiet (fail)
        have hd2 : Dr w (wr.drewN nq) := hd.trans ⟨nq, rfl⟩
        clear hd hcell hs1 hs3 hs4 hs5 hlt
        generalize wr.drewN nq = w5 at hd2
        go_wp2
        go_roundg g
        case measure => omega
        case rel =>
          obtain ⟨k, rfl⟩ : ∃ m, k = m + 1 := ⟨k - 1, by omega⟩
          exact ⟨k, by omega, by omega, by simp, hd2⟩
end Go.Proofs.YtonippapkmmkeaaDoor
/- utf's Mark, Check and Bytes, walked. -/
namespace Go.Proofs.YtonippapkmmkeaaDoor
open Go.ChangeShapes Go.WideShapes Go.ChangeAt Go.RowKit K U4
set_option linter.unusedVariables false

/-! ### A step along a text -/
theorem step_ok {pre : List Nat} {r l : List UInt8} (ha : AllC pre) (h : flat pre ++ r = l) (hf : fOk r = true) : AllC (pre ++ [fC r]) ∧ flat (pre ++ [fC r]) ++ r.drop (fN r) = l := by
  obtain ⟨h1, h2, h3⟩ := of_first hf
  refine ⟨ha.app (AllC.nil.cons h1), ?_⟩
  rw [flat_app, flat_cons, flat_nil, List.append_nil, List.append_assoc, ← h3, h]
theorem step_bad {pre : List Nat} {r l : List UInt8} (ha : AllC pre) (h : flat pre ++ r = l) (hr : r ≠ []) (hf : fOk r = false) : chars l = none := by
  rw [← h, chars_pre ha, chars_bad hr hf]; rfl
theorem step_end {pre : List Nat} {l : List UInt8} (ha : AllC pre) (h : flat pre ++ [] = l) : chars l = some pre := by
  rw [chars_iff]; exact ⟨ha, by rw [← h, List.append_nil]⟩

def KRel (l : List UInt8) (w : World) (g : Nat) (v0 : Value) (wr : World) : Prop :=
  ∃ pre r, AllC pre ∧ flat pre ++ r = l ∧ r.length = g ∧ v0 = .string (bs r) ∧ Dr w wr
set_option maxRecDepth 100000 in
theorem check_walk (l : List UInt8) (hl : l.length ≤ 140737488351232) (w : World) (ht : Leads w) :
    Calls Tryd.prog 38 #[.string (bs l)] w fun e w' => e = .returned (.int .i64 (chE l : Nat)) ∧ Dr w w' := by
  go_enter Tryd.func38, Tryd.ntmps38
  go_wp2
  go_loopg [0] l.length (fun g v0 wr => KRel l w g v0 wr)
  case atStart => exact ⟨[], l, AllC.nil, rfl, rfl, rfl, Dr.refl w⟩
  case round =>
    obtain ⟨pre, r, ha, hp, hg, rfl, hd⟩ := hrel
    have hrl : r.length ≤ l.length := by rw [← hp, List.length_append]; omega
    by_cases hr : r = []
    · subst hr
      have hc := step_end ha hp
      have HE := Lib.hid (chE_some hc).1
      clear hc hp ha hg hrl
      go_wp2
      go_ret
      rw [HE.out]
      exact ⟨rfl, hd⟩
    · have hne : r.isEmpty = false := List.isEmpty_eq_false_iff.2 hr
      have hF := first_walk r (by omega) wr (ht.dr hd)
      cases hf : fOk r
      · have HE := Lib.hid (chE_none (step_bad ha hp hr hf)).1
        obtain ⟨e1, e2, e3⟩ := f_not hf
        rw [e1, e2, e3] at hF
        have HF := Lib.hid hF
        clear hF e1 e2 e3 hp ha hr hg hf
        go_wp2_with fail
        refine HF.out.mono ?_
        rintro e w1 ⟨rfl, d1⟩
        have hd2 := hd.trans d1
        clear d1 hd
        go_wp2
        go_ret
        rw [HE.out]
        exact ⟨rfl, hd2⟩
      · have hfl := fN_le hf
        have hE : fE r = 0 := by unfold fE; rw [hf]; rfl
        rw [hE] at hF
        have HS := Lib.hid (step_ok ha hp hf)
        generalize fC r = C at hF HS
        generalize fN r = N at hF HS hfl
        obtain ⟨n1, n4, nl⟩ := hfl
        have HF := Lib.hid hF
        have HG := Lib.hid hg
        clear hF hE hp ha hr hg hf
        go_wp2_with fail
        refine HF.out.mono ?_
        rintro e w1 ⟨rfl, d1⟩
        have hd2 := hd.trans d1
        clear d1 hd
        go_wp2
        go_roundg (r.drop N).length
        case measure => have := HG.out; rw [List.length_drop]; omega
        case rel => exact ⟨pre ++ [C], r.drop N, HS.out.1, HS.out.2, rfl, rfl, hd2⟩

/-! ### The mark -/
def mk : List UInt8 := [239, 187, 191]
def mkB (l : List UInt8) : Bool := Lib.hasPrefix l mk
def mkT (l : List UInt8) : List UInt8 := Lib.trimPrefix l mk
theorem pre_take (l p : List UInt8) : Lib.hasPrefix l p = (decide (p.length ≤ l.length) && l.take p.length == p) := by
  rw [Bool.eq_iff_iff, Bool.and_eq_true, decide_eq_true_eq, beq_iff_eq]
  unfold Lib.hasPrefix
  rw [List.isPrefixOf_iff_prefix, List.prefix_iff_eq_take]
  constructor
  · intro h
    refine ⟨?_, h.symm⟩
    have := congrArg List.length h
    rw [List.length_take] at this; omega
  · intro h; exact h.2.symm
theorem cutp_walk (l p : List UInt8) (w : World) :
    Calls Tryd.prog 26 #[.string (bs l), .string (bs p)] w fun e w' => e = .returned (.tuple #[.string (bs (Lib.trimPrefix l p)), .bool (Lib.hasPrefix l p)]) ∧ w = w' := by
  have h := Tryd.strings_CutPrefix (bs l) (bs p) w
  rw [bs_toList, bs_toList] at h
  exact h.mono fun _ _ ⟨a, b⟩ => ⟨a, b.symm⟩
theorem mark_walk (l : List UInt8) (w : World) :
    Calls Tryd.prog 19 #[.string (bs l)] w fun e w' => e = .returned (.tuple #[.string (bs (mkT l)), .bool (mkB l)]) ∧ w = w' := by
  have H := Lib.hid (show ∀ w1, _ from fun w1 => cutp_walk l mk w1)
  have HM := Lib.hid (show mkT l = Lib.trimPrefix l mk ∧ mkB l = Lib.hasPrefix l mk from ⟨rfl, rfl⟩)
  generalize Lib.trimPrefix l mk = T at *
  generalize Lib.hasPrefix l mk = B at *
  unfold mk at H
  go_enter Tryd.func19, Tryd.ntmps19
  go_wp2_with fail
  refine (H.out _).mono ?_
  rintro e w1 ⟨rfl, rfl⟩
  go_wp2
  go_ret2
  rw [HM.out.1, HM.out.2]
  exact ⟨rfl, rfl⟩

/-! ### The bytes of a character -/
theorem run_conv_head {P : Program} (w : World) (src e dst : TypeId) (hs : P.underlying src = some (.slice e)) (he : P.underlying e = some (.int .u8)) (hd : P.underlying dst = some .string)
    {b t : Nat} {C : Array Value} {l : List UInt8} (hC : w.heap[b]? = some (.cells C t (0, 0))) (ht : tailIs C 0 l) (len cap : Nat) (hl : len ≤ l.length) :
    (convert src dst (.slice (some ⟨b, 0, none⟩) len cap)).run P w = .ok (.string (bs (l.take len))) w := by
  rw [run_convert_bytes_arg (P := P) w src e hs he b 0 len cap ((l.take len).map (fun b => (b.toNat : Int))) (by simp [List.length_take]; omega) _ dst hd, strOf_bs]
  intro i hi
  rw [tailCell hC ht i (by omega)]
  simp [byt, List.getD, hi, List.getElem?_eq_getElem (show i < l.length by omega)]
theorem made_head (c : Nat) : made c = b8 (ld (lg c) + c / 64 ^ (lg c - 1)) :: (made c).drop 1 := by
  rcases four c with ⟨h1, e1, e2⟩ | ⟨h1, h2, e1, e2⟩ | ⟨h1, h2, e1, e2⟩ | ⟨h1, e1, e2⟩ <;> rw [e1, e2] <;> simp [ld]
theorem made_next (c i : Nat) (h0 : 1 ≤ i) (h : i < lg c) : (made c).drop i = b8 (128 + c / 64 ^ (lg c - 1 - i) % 64) :: (made c).drop (i + 1) := by
  rcases four c with ⟨h1, e1, e2⟩ | ⟨h1, h2, e1, e2⟩ | ⟨h1, h2, e1, e2⟩ | ⟨h1, e1, e2⟩ <;> rw [e1] at h ⊢ <;> rw [e2]
  · omega
  · obtain rfl : i = 1 := by omega
    simp
  · obtain rfl | rfl : i = 1 ∨ i = 2 := by omega
    all_goals simp
  · obtain rfl | rfl | rfl : i = 1 ∨ i = 2 ∨ i = 3 := by omega
    all_goals simp
theorem lead_small (c : Nat) (h : isC c = true) : (lg c = 1 ∧ c / 64 ^ (lg c - 1) < 128) ∨ (lg c = 2 ∧ c / 64 ^ (lg c - 1) < 32) ∨ (lg c = 3 ∧ c / 64 ^ (lg c - 1) < 16) ∨ (lg c = 4 ∧ c / 64 ^ (lg c - 1) < 8) := by
  have hc := (isC_iff c).1 h
  rcases four c with ⟨h1, e1, e2⟩ | ⟨h1, h2, e1, e2⟩ | ⟨h1, h2, e1, e2⟩ | ⟨h1, e1, e2⟩ <;> rw [e1]
  · left; simp; omega
  · right; left; simp; omega
  · right; right; left; simp; omega
  · right; right; right; simp; omega
theorem or_lead (n q : Nat) (h : (n = 1 ∧ q < 128) ∨ (n = 2 ∧ q < 32) ∨ (n = 3 ∧ q < 16) ∨ (n = 4 ∧ q < 8)) : bits .or .u8 ((ld n : Nat) : Int) ((q : Nat) : Int) = ((b8 (ld n + q)).toNat : Int) := by
  rcases h with ⟨rfl, hq⟩ | ⟨rfl, hq⟩ | ⟨rfl, hq⟩ | ⟨rfl, hq⟩
  · have : ∀ i : Fin 128, bits .or .u8 ((ld 1 : Nat) : Int) (i.val : Int) = ((b8 (ld 1 + i.val)).toNat : Int) := by decide +kernel
    exact this ⟨q, hq⟩
  · have : ∀ i : Fin 32, bits .or .u8 ((ld 2 : Nat) : Int) (i.val : Int) = ((b8 (ld 2 + i.val)).toNat : Int) := by decide +kernel
    exact this ⟨q, hq⟩
  · have : ∀ i : Fin 16, bits .or .u8 ((ld 3 : Nat) : Int) (i.val : Int) = ((b8 (ld 3 + i.val)).toNat : Int) := by decide +kernel
    exact this ⟨q, hq⟩
  · have : ∀ i : Fin 8, bits .or .u8 ((ld 4 : Nat) : Int) (i.val : Int) = ((b8 (ld 4 + i.val)).toNat : Int) := by decide +kernel
    exact this ⟨q, hq⟩
theorem or_tail (q : Nat) : bits .or .u8 128 ((q : Int) % 64) = ((b8 (128 + q % 64)).toNat : Int) := by
  have : ∀ i : Fin 64, bits .or .u8 128 (i.val : Int) = ((b8 (128 + i.val)).toNat : Int) := by decide +kernel
  have h := this ⟨q % 64, by omega⟩
  rw [← h]; simp
theorem and63i (q : Nat) (h : q < 1114112) : bits .and .i64 (q : Int) 63 = (q : Int) % 64 := by
  have h1 : (BitVec.ofInt 64 ((q : Nat) : Int)).toNat = q := by rw [BitVec.toNat_ofInt]; omega
  have h4 : bits .and .i64 (q : Int) 63 = IntKind.i64.wrap (((BitVec.ofInt 64 ((q : Nat) : Int)).toNat &&& (BitVec.ofInt 64 63).toNat : Nat) : Int) := by
    show IntKind.i64.wrap (((BitVec.ofInt 64 ((q : Nat) : Int) &&& BitVec.ofInt 64 63).toNat : Nat) : Int) = _
    rw [BitVec.toNat_and]
  have h2 : (BitVec.ofInt 64 63).toNat = 2 ^ 6 - 1 := by decide
  rw [h4, h1, h2, Nat.and_two_pow_sub_one_eq_mod, IntKind.wrap_i64]
  omega
def byC (c : Int) : Value × Value := if isCi c then (.string (bs (made c.toNat)), .int .i64 0) else (.string (bs []), .int .i64 1)
def BRel (w : World) (c n g : Nat) (v0 v6 : Value) (wr : World) : Prop :=
  ∃ C, g < n ∧ v0 = .int .i64 ((c / 64 ^ (n - 1 - g) : Nat) : Int) ∧ v6 = .int .i64 ((g : Nat) : Int) ∧ wr.heap[w.heap.size]? = some (.cells C 98 (0, 0)) ∧ C.size = 4 ∧ tailIs C (g + 1) ((made c).drop (g + 1) ++ List.replicate (4 - n) 0) ∧ Below w.heap.size w wr
end Go.Proofs.YtonippapkmmkeaaDoor
