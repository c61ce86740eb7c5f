/- Texts on the program and on the document, joined: UtfD, UtfE, UtfF. -/
import Derived.Test.YtkmfcnilbmckmaaGreatDoorMa31
import Derived.Deep.RegionHeld3
import Derived.BigQuiet
import Derived.Deep.QuietTactic
import Derived.Outline
import Derived.Test.YtkmfcnilbmckmaaGreatDoorMa14
/- The document's own small functions of utf, walked. -/
namespace Go.Proofs.YtkmfcnilbmckmaaGreatDoor
open Go.ChangeShapes Go.WideShapes Go.ChangeAt Go.RowKit K U4
set_option linter.unusedVariables false

def byT (c : Int) : List UInt8 := if isCi c then made c.toNat else []
def byE (c : Int) : Nat := if isCi c then 0 else 1
theorem by_yes (c : Nat) (h : isC c = true) : byT (c : Int) = made c ∧ byE (c : Int) = 0 := by
  unfold byT byE; rw [isCi_nat, h]; exact ⟨by simp, rfl⟩
theorem by_no (c : Int) (h : isCi c = false) : byT c = [] ∧ byE c = 1 := by
  unfold byT byE; rw [h]; exact ⟨rfl, rfl⟩
theorem isCi_nat' {c : Int} (h : isCi c = true) : ∃ k : Nat, c = (k : Int) ∧ isC k = true := by
  obtain ⟨h0, _, _⟩ := (isCi_iff c).1 h
  refine ⟨c.toNat, by omega, ?_⟩
  rw [← isCi_nat, show ((c.toNat : Nat) : Int) = c by omega]; exact h
theorem uqis_walk (c : Int) (w : World) :
    Calls Tryz.prog 102 #[.int .i64 c] w fun e w' => e = .returned (.bool (isCi c)) ∧ w = w' := by
  by_cases h0 : 0 ≤ c
  · by_cases h1 : c ≤ 1114111
    · have e : isCi c = (decide (c < 55296) || decide (57343 < c)) := by
        rw [Bool.eq_iff_iff, isCi_iff, Bool.or_eq_true, decide_eq_true_eq, decide_eq_true_eq]; omega
      rw [e]; clear e
      go_enter Tryz.func102, Tryz.ntmps102
      go_wp2
      all_goals (go_ret; exact ⟨rfl, rfl⟩)
    · rw [isCi_f (c := c) (by omega)]
      have h1' : 1114112 ≤ c := by omega
      clear h1
      go_enter Tryz.func102, Tryz.ntmps102
      go_wp2
      go_ret
      exact ⟨rfl, rfl⟩
  · rw [isCi_f (c := c) (by omega)]
    have h0' : c ≤ -1 := by omega
    clear h0
    go_enter Tryz.func102, Tryz.ntmps102
    go_wp2
    go_ret
    exact ⟨rfl, rfl⟩

theorem urun_conv_two {P : Program} (src e dst : TypeId) (hs : P.underlying src = some (.slice e)) (he : P.underlying e = some (.int .u8)) (hd : P.underlying dst = some .string) :
    ∀ (w : World) (x y : Int), (convert src dst (.slice (some ⟨w.heap.size, 0, none⟩) 2 2)).run P (w.alloc (.cells #[.int .u8 x, .int .u8 y] e)) = .ok (.string (bs [b8 x.toNat, b8 y.toNat])) (w.alloc (.cells #[.int .u8 x, .int .u8 y] e)) := by
  intro w x y
  rw [run_convert_bytes_arg (P := P) (w.alloc (.cells #[.int .u8 x, .int .u8 y] e)) src e hs he w.heap.size 0 2 2 [x, y] rfl _ dst hd]
  · rfl
  · intro i hi
    rw [cellRow (rowNew w _)]
    obtain rfl | rfl : i = 0 ∨ i = 1 := by omega
    all_goals rfl
theorem run_conv_three {P : Program} (src e dst : TypeId) (hs : P.underlying src = some (.slice e)) (he : P.underlying e = some (.int .u8)) (hd : P.underlying dst = some .string) :
    ∀ (w : World) (x y z : Int), (convert src dst (.slice (some ⟨w.heap.size, 0, none⟩) 3 3)).run P (w.alloc (.cells #[.int .u8 x, .int .u8 y, .int .u8 z] e)) = .ok (.string (bs [b8 x.toNat, b8 y.toNat, b8 z.toNat])) (w.alloc (.cells #[.int .u8 x, .int .u8 y, .int .u8 z] e)) := by
  intro w x y z
  rw [run_convert_bytes_arg (P := P) (w.alloc (.cells #[.int .u8 x, .int .u8 y, .int .u8 z] e)) src e hs he w.heap.size 0 3 3 [x, y, z] rfl _ dst hd]
  · rfl
  · intro i hi
    rw [cellRow (rowNew w _)]
    obtain rfl | rfl | rfl : i = 0 ∨ i = 1 ∨ i = 2 := by omega
    all_goals rfl
theorem run_conv_four {P : Program} (src e dst : TypeId) (hs : P.underlying src = some (.slice e)) (he : P.underlying e = some (.int .u8)) (hd : P.underlying dst = some .string) :
    ∀ (w : World) (x y z u : Int), (convert src dst (.slice (some ⟨w.heap.size, 0, none⟩) 4 4)).run P (w.alloc (.cells #[.int .u8 x, .int .u8 y, .int .u8 z, .int .u8 u] e)) = .ok (.string (bs [b8 x.toNat, b8 y.toNat, b8 z.toNat, b8 u.toNat])) (w.alloc (.cells #[.int .u8 x, .int .u8 y, .int .u8 z, .int .u8 u] e)) := by
  intro w x y z u
  rw [run_convert_bytes_arg (P := P) (w.alloc (.cells #[.int .u8 x, .int .u8 y, .int .u8 z, .int .u8 u] e)) src e hs he w.heap.size 0 4 4 [x, y, z, u] rfl _ dst hd]
  · rfl
  · intro i hi
    rw [cellRow (rowNew w _)]
    obtain rfl | rfl | rfl | rfl : i = 0 ∨ i = 1 ∨ i = 2 ∨ i = 3 := by omega
    all_goals rfl
theorem ret_str {a b : List UInt8} (h : a = b) : Ending.returned (.string (bs a)) = .returned (.string (bs b)) := by rw [h]
set_option maxRecDepth 100000 in
theorem qmade1 (c : Nat) (h : (c : Int) < 128) (w : World) :
    Calls Tryz.prog 103 #[.int .i64 c] w fun e w' => e = .returned (.string (bs [b8 c])) ∧ Below w.heap.size w w' := by
  have hcv := run_conv_one (P := Tryz.prog) 53 5 9 Tryz.underlying53 Tryz.underlying5 Tryz.underlying9
  go_enter Tryz.func103, Tryz.ntmps103
  go_wp2
  go_ret
  refine ⟨ret_str (by simp), (Below.refl _ _).alloc (Nat.le_refl _) _⟩
set_option maxRecDepth 100000 in
theorem qmade2 (c : Nat) (h0 : (128 : Int) ≤ c) (h : (c : Int) < 2048) (w : World) :
    Calls Tryz.prog 103 #[.int .i64 c] w fun e w' => e = .returned (.string (bs [b8 (192 + c / 64), b8 (128 + c % 64)])) ∧ Below w.heap.size w w' := by
  have hcv := urun_conv_two (P := Tryz.prog) 53 5 9 Tryz.underlying53 Tryz.underlying5 Tryz.underlying9
  go_enter Tryz.func103, Tryz.ntmps103
  go_wp2
  go_ret
  exact ⟨rfl, (Below.refl _ _).alloc (Nat.le_refl _) _⟩
set_option maxRecDepth 100000 in
theorem qmade3 (z : Int) (h0 : 2048 ≤ z) (h : z < 65536) (w : World) :
    Calls Tryz.prog 103 #[.int .i64 z] w fun e w' => e = .returned (.string (bs [b8 (224 + z / 4096).toNat, b8 (128 + z / 64 % 64).toNat, b8 (128 + z % 64).toNat])) ∧ Below w.heap.size w w' := by
  have hcv := run_conv_three (P := Tryz.prog) 53 5 9 Tryz.underlying53 Tryz.underlying5 Tryz.underlying9
  go_enter Tryz.func103, Tryz.ntmps103
  go_wp2
  go_ret
  exact ⟨rfl, (Below.refl _ _).alloc (Nat.le_refl _) _⟩
set_option maxRecDepth 100000 in
theorem qmade4 (z : Int) (h0 : 65536 ≤ z) (h : z < 1114112) (w : World) :
    Calls Tryz.prog 103 #[.int .i64 z] w fun e w' => e = .returned (.string (bs [b8 (240 + z / 262144).toNat, b8 (128 + z / 4096 % 64).toNat, b8 (128 + z / 64 % 64).toNat, b8 (128 + z % 64).toNat])) ∧ Below w.heap.size w w' := by
  have hcv := run_conv_four (P := Tryz.prog) 53 5 9 Tryz.underlying53 Tryz.underlying5 Tryz.underlying9
  go_enter Tryz.func103, Tryz.ntmps103
  go_wp2
  go_ret
  exact ⟨rfl, (Below.refl _ _).alloc (Nat.le_refl _) _⟩
theorem qmade_walk (c : Nat) (hc : isC c = true) (w : World) :
    Calls Tryz.prog 103 #[.int .i64 c] w fun e w' => e = .returned (.string (bs (made c))) ∧ Below w.heap.size w w' := by
  have hb := (isC_iff c).1 hc
  rcases four c with ⟨h1, _, e⟩ | ⟨h1, h2, _, e⟩ | ⟨h1, h2, _, e⟩ | ⟨h1, _, e⟩ <;> rw [e]
  · exact qmade1 c (by omega) w
  · exact qmade2 c (by omega) (by omega) w
  · have := qmade3 c (by omega) (by omega) w
    rwa [show (224 + (c : Int) / 4096).toNat = 224 + c / 4096 by omega, show (128 + (c : Int) / 64 % 64).toNat = 128 + c / 64 % 64 by omega, show (128 + (c : Int) % 64).toNat = 128 + c % 64 by omega] at this
  · have := qmade4 c (by omega) (by omega) w
    rwa [show (240 + (c : Int) / 262144).toNat = 240 + c / 262144 by omega, show (128 + (c : Int) / 4096 % 64).toNat = 128 + c / 4096 % 64 by omega, show (128 + (c : Int) / 64 % 64).toNat = 128 + c / 64 % 64 by omega, show (128 + (c : Int) % 64).toNat = 128 + c % 64 by omega] at this
end Go.Proofs.YtkmfcnilbmckmaaGreatDoor
/- The document's First, Check and Mark, walked. -/
namespace Go.Proofs.YtkmfcnilbmckmaaGreatDoor
open Go.ChangeShapes Go.WideShapes Go.ChangeAt Go.RowKit K U4
set_option linter.unusedVariables false

theorem Below_ofDrew {B : Nat} {a b : World} {n : Nat} (h : Below B (a.drewN n) b) : Below B a b := ⟨h.os, h.tape, h.output, h.size, h.block⟩
theorem Below_drewN {B : Nat} {a b : World} (h : Below B a b) (n : Nat) : Below B a (b.drewN n) := ⟨h.os, h.tape, h.output, h.size, h.block⟩
theorem Below_ofDrew1 {B : Nat} {a b : World} (h : Below B a.drew b) : Below B a b := ⟨h.os, h.tape, h.output, h.size, h.block⟩
theorem gac_le (l : List UInt8) (n : Nat) : gac l n 0 < 256 ∧ gac l n 1 < 16448 ∧ gac l n 2 < 1052736 ∧ gac l n 3 < 67375168 := by
  have h := byt_lt l 0
  have h1 : gst n (byt l 0) < 256 := by
    unfold gst
    by_cases e1 : n = 1
    · rw [if_pos e1]; exact h
    · by_cases e2 : n = 2
      · rw [if_neg e1, if_pos e2]; omega
      · by_cases e3 : n = 3
        · rw [if_neg e1, if_neg e2, if_pos e3]; omega
        · rw [if_neg e1, if_neg e2, if_neg e3]; omega
  simp only [gac]; omega
theorem gac_lt (l : List UInt8) (n i : Nat) (h : i ≤ 3) : gac l n i < 67375168 := by
  obtain ⟨a, b, c, d⟩ := gac_le l n
  obtain rfl | rfl | rfl | rfl : i = 0 ∨ i = 1 ∨ i = 2 ∨ i = 3 := by omega
  all_goals omega
theorem gs_lt (l : List UInt8) (n : Nat) (h : n ≤ 4) : gs l n < 67375168 := gac_lt l n (n - 1) (by omega)
def GuRel (l : List UInt8) (n : Nat) (w : World) (g : Nat) (v5 v6 : Value) (wr : World) : Prop :=
  ∃ j, j + 1 + g = n ∧ v6 = .int .i64 ((j + 1 : Nat) : Int) ∧ v5 = .int .i64 ((gac l n j : Nat) : Int) ∧ wr = w
set_option maxRecDepth 100000 in
theorem guess_walk (l : List UInt8) (hl : l.length ≤ 140737488351232) (n : Nat) (h1 : 1 ≤ n) (h4 : n ≤ 4) (hn : n ≤ l.length) (w : World) :
    Calls Tryz.prog 101 #[.string (bs l), .int .i64 n] w fun e w' => e = .returned (.int .i64 (gs l n : Nat)) ∧ w = w' := by
  have hpos : 0 < l.length := by omega
  have hb0 := byt_lt l 0
  by_cases hn1 : n = 1
  · subst hn1
    show Calls _ _ _ _ fun e w' => e = .returned (.int .i64 (byt l 0 : Nat)) ∧ w = w'
    go_enter Tryz.func101, Tryz.ntmps101
    go_wp2
    go_ret
    exact ⟨rfl, rfl⟩
  · have HG := Lib.hid (show gac l n (n - 1) = gs l n from rfl)
    have q1 : (((n : Nat) : Int) == 1) = false := by rw [beq_eq_false_iff_ne]; omega
    have hq : (((n : Nat) : Int) == 2) = true ∧ (((n : Nat) : Int) == 3) = false ∧ ((byt l 0 : Nat) : Int) % 32 = ((gac l n 0 : Nat) : Int) ∨
        (((n : Nat) : Int) == 2) = false ∧ (((n : Nat) : Int) == 3) = true ∧ ((byt l 0 : Nat) : Int) % 16 = ((gac l n 0 : Nat) : Int) ∨
        (((n : Nat) : Int) == 2) = false ∧ (((n : Nat) : Int) == 3) = false ∧ ((byt l 0 : Nat) : Int) % 8 = ((gac l n 0 : Nat) : Int) := by
      obtain rfl | rfl | rfl : n = 2 ∨ n = 3 ∨ n = 4 := by omega
      · left; simp [gac, gst]
      · right; left; simp [gac, gst]
      · right; right; simp [gac, gst]
    have hn2 : 2 ≤ n := by omega
    clear hn1
    rcases hq with ⟨q2, q3, hv⟩ | ⟨q2, q3, hv⟩ | ⟨q2, q3, hv⟩
    all_goals
      have HV := Lib.hid hv
      clear hv
      go_enter Tryz.func101, Tryz.ntmps101
      go_wp2
      clear q1 q2 q3
      go_loopg [5, 6] (n - 1) (fun g v5 v6 wr => GuRel l n w g v5 v6 wr)
      case atStart => exact ⟨0, by omega, rfl, by rw [← HV.out], rfl⟩
      case round =>
        obtain ⟨j, hjn, rfl, rfl, rfl⟩ := hrel
        cases gk with
        | zero =>
          have hG : gac l n j = gs l n := by rw [← HG.out, show n - 1 = j by omega]
          obtain rfl : j + 1 = n := by omega
          have HGN := Lib.hid hG
          clear hG hb0
          go_wp2
          go_ret
          rw [← HGN.out]
          exact ⟨rfl, rfl⟩
        | succ g =>
          have hb := byt_lt l (j + 1)
          have hX := gac_lt l n j (by omega)
          go_wp2
          go_roundg g
          case measure => omega
          case rel => exact ⟨j + 1, by omega, by simp, by simp [gac], rfl⟩
def FqRel (l : List UInt8) (w : World) (g : Nat) (v5 : Value) (wr : World) : Prop :=
  ∃ n, n + g = 5 ∧ 1 ≤ n ∧ v5 = .int .i64 ((n : Nat) : Int) ∧ (fOk l = true → n ≤ fN l) ∧ Below w.heap.size w wr
set_option maxRecDepth 100000 in
set_option maxHeartbeats 1000000 in
theorem qfirst_walk (l : List UInt8) (hl : l.length ≤ 140737488351232) (w : World) :
    Calls Tryz.prog 69 #[.string (bs l)] w fun e w' => e = .returned (.tuple #[.int .i64 (fC l : Nat), .int .i64 (fN l : Nat), .int .i64 (fE l : Nat)]) ∧ Below w.heap.size w w' := by
  go_enter Tryz.func69, Tryz.ntmps69
  go_wp2
  go_loopg [5] 4 (fun g v5 wr => FqRel l w g v5 wr)
  case atStart => exact ⟨1, by omega, by omega, rfl, fun h => (fN_le h).1, Below.refl _ _⟩
  case round =>
    obtain ⟨n, hng, h1, rfl, hno, hb⟩ := hrel
    by_cases hin : n ≤ 4 ∧ n ≤ l.length
    · obtain ⟨h4, hnl⟩ := hin
      obtain ⟨g, rfl⟩ : ∃ g, gk = g + 1 := ⟨gk - 1, by omega⟩
      have hG := fun w1 => guess_walk l hl n h1 h4 hnl w1
      have hgl := gs_lt l n h4
      have hI := fun w1 => uqis_walk ((gs l n : Nat) : Int) w1
      rw [isCi_nat] at hI
      have HQ := Lib.hid hG
      clear hG
      have hle : decide (n ≤ l.length) = true := decide_eq_true hnl
      cases hic : isC (gs l n)
      · have hno2 : fOk l = true → n + 1 ≤ fN l := by
          intro hf
          have := hno hf
          rcases Nat.lt_or_ge n (fN l) with h | h
          · omega
          · obtain rfl : n = fN l := by omega
            rw [hit_yes hf, (of_first hf).1] at hic; cases hic
        have HNO := Lib.hid hno2
        rw [hic] at hI
        have HI := Lib.hid hI
        generalize gs l n = G at *
        clear hI hno hno2 hic
        go_wp2_with fail
        refine (HQ.out _).mono ?_
        rintro e w1 ⟨rfl, rfl⟩
        go_wp2_with fail
        go_quiet ((go_at_call 102; refine Calls.quiet_mk (HI.out _)))
        go_wp2
        go_roundg g
        case measure => omega
        case rel => exact ⟨n + 1, by omega, by omega, by simp, HNO.out, Below_drewN hb _⟩
      · rw [hic] at hI
        have HI := Lib.hid hI
        have HM := Lib.hid (fun w1 => qmade_walk (gs l n) hic w1)
        by_cases heq : made (gs l n) = l.take n
        · have hh := of_hit hnl hic heq
          have hq : (made (gs l n) == l.take n) = true := beq_iff_eq.2 heq
          have HH := Lib.hid hh
          have HE := Lib.hid (show fE l = 0 by unfold fE; rw [hh.1]; rfl)
          generalize gs l n = G at *
          generalize made G = M at *
          clear hI hno hic heq hh
          go_wp2_with fail
          refine (HQ.out _).mono ?_
          rintro e w1 ⟨rfl, rfl⟩
          go_wp2_with fail
          go_region_held3 (fun _ => True) (exact trivial) (first
            | (go_at_call 102; refine (HI.out _).mono ?_; rintro e x0 ⟨rfl, rfl⟩)
            | (go_at_call 103; refine (HM.out _).mono ?_; rintro e x1 ⟨rfl, k1⟩))
          go_wp2
          go_ret3
          rw [HH.out.2.1, HH.out.2.2, HE.out]
          exact ⟨rfl, hb.trans (Below.mono (by first | exact Below_ofDrew1 k1 | exact Below_ofDrew k1 | exact k1) hb.size)⟩
        · have hno2 : fOk l = true → n + 1 ≤ fN l := by
            intro hf
            have := hno hf
            rcases Nat.lt_or_ge n (fN l) with h | h
            · omega
            · obtain rfl : n = fN l := by omega
              rw [hit_yes hf] at heq
              exact absurd (take_first hf).symm heq
          have HNO := Lib.hid hno2
          have hq : (made (gs l n) == l.take n) = false := beq_eq_false_iff_ne.2 heq
          generalize gs l n = G at *
          generalize made G = M at *
          clear hI hno hno2 hic heq
          go_wp2_with fail
          refine (HQ.out _).mono ?_
          rintro e w1 ⟨rfl, rfl⟩
          go_wp2_with fail
          go_region_held3 (fun _ => True) (exact trivial) (first
            | (go_at_call 102; refine (HI.out _).mono ?_; rintro e x0 ⟨rfl, rfl⟩)
            | (go_at_call 103; refine (HM.out _).mono ?_; rintro e x1 ⟨rfl, k1⟩))
          have hb2 := hb.trans (Below.mono (by first | exact Below_ofDrew1 k1 | exact Below_ofDrew k1 | exact k1) hb.size)
          clear k1 hb
          go_wp2
          go_roundg g
          case measure => omega
          case rel => exact ⟨n + 1, by omega, by omega, by simp, HNO.out, hb2⟩
    · have hnf : fOk l = false := by
        rw [← Bool.not_eq_true]
        intro hf
        have h2 := hno hf
        have h3 := fN_le hf
        omega
      have HF := Lib.hid (f_not hnf)
      have hend : (n ≤ 4 ∧ l.length < n) ∨ 4 < n := by omega
      clear hno hnf hin
      rcases hend with ⟨he1, he2⟩ | he1
      all_goals
        go_wp2
        go_ret3
        rw [HF.out.1, HF.out.2.1, HF.out.2.2]
        exact ⟨rfl, hb⟩
end Go.Proofs.YtkmfcnilbmckmaaGreatDoor
/- Chars, the program's and the document's, the document's Check and Mark, walked. -/
namespace Go.Proofs.YtkmfcnilbmckmaaGreatDoor
open Go.ChangeShapes Go.WideShapes Go.ChangeAt Go.RowKit K U4
set_option linter.unusedVariables false

/-- What Chars hands back: the code, and the characters in a list of its own. -/
def ChPost (l : List UInt8) (w : World) (e : Ending) (w' : World) : Prop :=
  ∃ v, e = .returned (.tuple #[v, .int .i64 (chE l : Nat)]) ∧ OwnI w' w.heap.size 3 v (chL l) ∧ Below w.heap.size w w'
def CRel (l : List UInt8) (w : World) (g : Nat) (v0 v4 : Value) (wr : World) : Prop :=
  ∃ pre r, AllC pre ∧ flat pre ++ r = l ∧ r.length = g ∧ v0 = .string (bs r) ∧ OwnI wr w.heap.size 3 v4 pre ∧ Below w.heap.size w wr
theorem int_info : (Tryz.prog.info? 3).map (fun i => (i.zero, i.size, i.bytes)) = some (some (.int .i64 0), 1, 8) := by kernel_rfl
theorem ret_two {a b c d : Value} (h : a = b) (k : c = d) : Ending.returned (.tuple #[a, c]) = .returned (.tuple #[b, d]) := by rw [h, k]
theorem at_ok {pre : List Nat} {l : List UInt8} {p : Nat} (ha : AllC pre) (h : flat pre ++ l.drop p = l) (hp : p ≤ l.length) (hf : fOk (l.drop p) = true) :
    AllC (pre ++ [fC (l.drop p)]) ∧ flat (pre ++ [fC (l.drop p)]) ++ l.drop (p + fN (l.drop p)) = l ∧ p + fN (l.drop p) ≤ l.length := by
  obtain ⟨h1, h2⟩ := step_ok ha h hf
  rw [List.drop_drop] at h2
  have h3 := (fN_le hf).2.2
  rw [List.length_drop] at h3
  exact ⟨h1, h2, by omega⟩
theorem drop_ne {l : List UInt8} {p : Nat} (h : p < l.length) : l.drop p ≠ [] := by
  intro e
  have := congrArg List.length e
  rw [List.length_drop] at this
  simp at this; omega
def CqRel (l : List UInt8) (w : World) (g : Nat) (v4 v5 : Value) (wr : World) : Prop :=
  ∃ pre p, AllC pre ∧ flat pre ++ l.drop p = l ∧ p ≤ l.length ∧ l.length - p = g ∧ v5 = .int .i64 (p : Nat) ∧ OwnI wr w.heap.size 3 v4 pre ∧ Below w.heap.size w wr
end Go.Proofs.YtkmfcnilbmckmaaGreatDoor
