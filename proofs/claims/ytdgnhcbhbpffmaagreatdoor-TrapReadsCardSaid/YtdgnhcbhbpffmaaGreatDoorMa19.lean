/- Texts on the program and on the document, joined: OctA, OctB, OidV, OidW, Rgr. -/
import Derived.Test.YtdgnhcbhbpffmaaGreatDoorRows
import Derived.Test.YtdgnhcbhbpffmaaGreatDoorMa01
import Derived.ProofKit
import Derived.OpenShut
import Derived.ShutString
import Derived.Test.YtdgnhcbhbpffmaaGreatDoorMa16
import Derived.Test.YtdgnhcbhbpffmaaGreatDoorMa18
import Derived.Test.YtdgnhcbhbpffmaaGreatDoorMa11
import Derived.Lib.AppendIntMem
import Derived.Deep.RegionWith
import Derived.Test.YtdgnhcbhbpffmaaGreatDoorMa04
import Derived.Test.YtdgnhcbhbpffmaaGreatDoorMa05
namespace Go.Proofs.YtdgnhcbhbpffmaaGreatDoor
open Go.ChangeShapes Go.WideShapes Go.ChangeAt Go.RowKit P1 K
set_option linter.unusedVariables false

/-- The relation of octet.groups' loop. -/
def GRel (w : World) (t : List UInt8) (vn va : Value) (wr : World) : Prop :=
  ∃ (m p : Nat) (C : Array Value) (l : List UInt8), p ≤ 8 ∧ m < 128 ^ p ∧ vn = .int .i64 m ∧ va = .int .i64 p ∧ wr.heap[w.heap.size]? = some (.cells C 186 (0, 0)) ∧ C.size = 9 ∧ l.length = 9 - p ∧ tailIs C p l ∧ low p m ++ l = t ∧ Below w.heap.size w wr

theorem groups_walk (n : Nat) (h1 : n ≤ 9223372036854775807) (w : World) :
    Calls Tryz.prog 143 #[.int .i64 n] w fun e w' => e = .returned (.string (bs (grp n))) ∧ Below w.heap.size w w' := by
  go_enter Tryz.func143, Tryz.ntmps143
  go_wp2
  go_loopw [0, 4] (fun vn va wr => GRel w (grp n) vn va wr) (fun vn va wr => (intOf va).toNat)
  case atStart =>
    refine ⟨n / 128, 8, _, [b8 (n % 128)], by omega, by omega, by simp, rfl, rowNew _ _, rfl, rfl, ?_, rfl, (Below.refl _ _).alloc (Nat.le_refl _) _⟩
    show [Value.int .u8 ((n : Int) % 128)] = [Value.int .u8 ((b8 (n % 128)).toNat : Int)]
    rw [b8_toNat (n % 128) (by omega)]; simp
  case round =>
    obtain ⟨m, p, C, l, hp, hm, rfl, rfl, hC, hs, hl, ht, hg, hb⟩ := hrel
    by_cases h0 : 0 < m
    · obtain ⟨q, rfl⟩ : ∃ q, p = q + 1 := ⟨p - 1, by rcases p with _ | p <;> simp at hm ⊢; omega⟩
      obtain ⟨x, hcell⟩ : ∃ x, wr.cell? ⟨w.heap.size, q, none⟩ = some x := ⟨C[q]'(by omega), by simp [World.cell?, hC]⟩
      have hfr : wr.frozen? ⟨w.heap.size, q, none⟩ = false := freeRow hC q
      have e1 : bits .or .u8 ((m : Int) % 128) 128 = ((b8 (m % 128 + 128)).toNat : Int) := by
        rw [bits_or128 _ (by omega) (by omega), b8_toNat _ (by omega)]; omega
      have hm2 : m / 128 < 128 ^ q := by rw [Nat.pow_succ] at hm; omega
      have hmx : m ≤ 72057594037927936 := by
        have : (128 : Nat) ^ (q + 1) ≤ 128 ^ 8 := Nat.pow_le_pow_right (by omega) (by omega)
        omega
      have HC := Lib.hid hC; have Hs := Lib.hid hs; have Hl := Lib.hid hl; have Hg := Lib.hid hg; have Hm := Lib.hid hm; have E1 := Lib.hid e1; clear hC hs hl hg hm e1
      go_wp2
      go_roundw
      case measure => simp [intOf]
      case rel =>
        refine ⟨m / 128, q, _, b8 (m % 128 + 128) :: l, by omega, hm2, by simp, rfl, rowSet HC.out q _, by simp [Hs.out], by simp [Hl.out]; omega, ?_, ?_, hb.setCell (Nat.le_refl _) _⟩
        · rw [E1.out]; exact tailIs_set ht (by rw [Hs.out]; omega) _
        · rw [← Hg.out, low_step q m h0, List.append_assoc]; rfl
    · obtain rfl : m = 0 := by omega
      obtain rfl : grp n = l := by rw [low_zero] at hg; simpa using hg.symm
      have hcv := run_conv_tail (P := Tryz.prog) wr 124 5 9 Tryz.underlying124 Tryz.underlying5 Tryz.underlying9 hC ht (9 - p) (9 - p) hl
      have hsl := run_sliceAt_arr (P := Tryz.prog) wr 186 5 9 Tryz.underlying186 (by kernel_rfl) w.heap.size p (by omega)
      clear hC hs hl hg ht hm
      go_wp2
      go_ret
      exact ⟨rfl, hb⟩
end Go.Proofs.YtdgnhcbhbpffmaaGreatDoor
namespace Go.Proofs.YtdgnhcbhbpffmaaGreatDoor
open Go.ChangeShapes Go.WideShapes Go.ChangeAt Go.RowKit P1 K
set_option linter.unusedVariables false

def RRel (w : World) (t : List UInt8) (vn vs : Value) (wr : World) : Prop :=
  ∃ (m f : Nat) (l : List UInt8), m < 128 ^ (f + 1) ∧ f ≤ 8 ∧ vn = .int .i64 m ∧ vs = .string (bs l) ∧ l.length + f ≤ 9 ∧ low f (m / 128) ++ l = t ∧ Below w.heap.size w wr

set_option maxRecDepth 100000 in
theorem grouped_walk (n : Nat) (h1 : n ≤ 9223372036854775807) (w : World) :
    Calls Tryz.prog 107 #[.int .i64 n] w fun e w' => e = .returned (.string (bs (grp n))) ∧ Below w.heap.size w w' := by
  have hc1 := run_conv_one (P := Tryz.prog) 124 5 9 Tryz.underlying124 Tryz.underlying5 Tryz.underlying9
  go_enter Tryz.func107, Tryz.ntmps107
  go_wp2
  go_loopw [0, 3] (fun vn vs wr => RRel w (grp n) vn vs wr) (fun vn vs wr => (intOf vn).toNat)
  case atStart =>
    exact ⟨n, 8, _, by omega, by omega, rfl, rfl, by simp, rfl, (Below.refl _ _).alloc (Nat.le_refl _) _⟩
  case round =>
    obtain ⟨m, f, l, hm, hf, rfl, rfl, hl, hg, hb⟩ := hrel
    have Hg := Lib.hid hg; have Hm := Lib.hid hm; clear hg
    have hmx : m ≤ 9223372036854775807 := by
      have : (128 : Nat) ^ (f + 1) ≤ 128 ^ 9 := Nat.pow_le_pow_right (by omega) (by omega)
      omega
    clear hm
    by_cases h0 : 128 ≤ m
    · go_wp2
      go_roundw
      case measure => simp [intOf]; omega
      case rel =>
        obtain ⟨g, rfl⟩ : ∃ g, f = g + 1 := ⟨f - 1, by have := Hm.out; rcases f with _ | f <;> simp at this ⊢; omega⟩
        have hm2 : m / 128 < 128 ^ (g + 1) := by have := Hm.out; rw [Nat.pow_succ] at this; omega
        refine ⟨m / 128, g, b8 (m / 128 % 128 + 128) :: l, hm2, by omega, by simp, ?_, by simp; omega, ?_, hb.alloc (by have := hb.size; omega) _⟩
        · simp
        · rw [← Hg.out, low_step g (m / 128) (by omega), List.append_assoc]; rfl
    · go_wp2
      go_ret
      refine ⟨?_, hb⟩
      rw [← Hg.out, show m / 128 = 0 by omega, low_zero]; rfl

theorem octGroups_walk (n : Int) (h0 : -9223372036854775808 ≤ n) (h1 : n ≤ 9223372036854775807) (w : World) :
    Calls Tryz.prog 133 #[.int .i64 n] w fun e w' => e = .returned (.tuple #[.string (bs (grpS n)), .int .i64 (grpC n)]) ∧ Below w.heap.size w w' := by
  by_cases h : n < 0
  · go_enter Tryz.func133, Tryz.ntmps133
    go_wp2
    go_ret2
    exact ⟨by simp [grpS, grpC, h]; rfl, Below.refl _ _⟩
  · obtain ⟨m, rfl⟩ := Int.eq_ofNat_of_zero_le (show 0 ≤ n by omega)
    go_enter Tryz.func133, Tryz.ntmps133
    go_wp2_with (go_at_call 143; refine (groups_walk m (by omega) _).mono ?_; rintro e w' ⟨rfl, hb⟩)
    go_ret2
    exact ⟨by rw [grpS_nat, grpC_nat]; rfl, hb⟩

theorem octGroups_nat (m : Nat) (h : m < 9223372036854775808) (w : World) :
    Calls Tryz.prog 133 #[.int .i64 m] w fun e w' => e = .returned (.tuple #[.string (bs (grp m)), .int .i64 0]) ∧ Below w.heap.size w w' := by
  have := octGroups_walk m (by omega) (by omega) w
  rwa [grpS_nat, grpC_nat] at this

end Go.Proofs.YtdgnhcbhbpffmaaGreatDoor
/- oid's write, Text, Encode, Child, walked. -/
namespace Go.Proofs.YtdgnhcbhbpffmaaGreatDoor
open Go.ChangeShapes Go.WideShapes Go.ChangeAt Go.RowKit K O6
set_option linter.unusedVariables false

theorem dec_dg : ∀ (f n : Nat), 1 ≤ f → n < 10 ^ f → dg f n = Lib.decDigits n
  | 0, _, h, _ => by omega
  | f + 1, n, _, h => by
    by_cases hn : n < 10
    · rw [dg_small _ n hn, Lib.decDigits_one hn]; rfl
    · have hf : 1 ≤ f := by
        rcases Nat.eq_zero_or_pos f with h0 | h0
        · subst h0; omega
        · exact h0
      rw [dg_big _ n (by omega), Lib.decDigits, dif_neg hn, dec_dg f (n / 10) hf (by rw [Nat.pow_succ] at h; omega)]; rfl
theorem itoa_nm (n : Nat) (hn : n ≤ 9223372036854775807) : Lib.itoa (n : Int) = nm n := by
  unfold Lib.itoa nm
  rw [if_neg (by omega), Int.toNat_natCast]
  exact (dec_dg 20 n (by omega) (by omega)).symm
theorem itoa_walk (n : Nat) (hn : n ≤ 9223372036854775807) (w : World) (h : Tabs w) :
    Calls Tryz.prog 141 #[.int .i64 n] w fun e w' => e = .returned (.string (bs (nm n))) ∧ Below w.heap.size w w' := by
  refine (Tryz.strconv_Itoa n (by omega) (by omega) w h.2.2.2).mono ?_
  rintro e w' ⟨rfl, k, os, rfl⟩
  rw [itoa_nm n hn]
  exact ⟨rfl, Lib.below_grow _ _ (Nat.le_refl _) _ _⟩
theorem obld_fresh (w : World) : Bld w.heap.size w.heap.size [] (w.alloc (.cells #[.pointer none, .slice none 0 0] 126)) :=
  .inl ⟨Nat.le_refl _, _, rowNew w _, World.ownsRow_nil _ _ _ _, by simp [Value.ownBlock]⟩
/-- The state of write's loop: what is written. -/
def WrRel (cs : List Nat) (w : World) (b g : Nat) (v : Value) (wr : World) : Prop :=
  ∃ i, i + g = cs.length ∧ v = .int .i64 (i : Nat) ∧ Bld b b (put (cs.take i)) wr ∧ Below w.heap.size w wr
theorem put_take_len (cs : List Nat) (h : ∀ a ∈ cs, a ≤ 4294967295) (i : Nat) : (put (cs.take i)).length ≤ 11 * cs.length := by
  have h1 := O6.put_len (cs.take i) (fun a ha => h a (List.mem_of_mem_take ha))
  rw [List.length_take] at h1
  have : min i cs.length ≤ cs.length := Nat.min_le_right _ _
  omega
set_option maxRecDepth 100000 in
set_option maxHeartbeats 2000000 in
theorem write_walk (cs : List Nat) (hcs : ∀ a ∈ cs, a ≤ 4294967295) (hn : cs.length ≤ 1000) (ao : Option Addr) (cap : Nat) (w : World) (hr : RdZ w ao cs.length (fz cs)) (T : Tabs w) :
    Calls Tryz.prog 131 #[.slice ao cs.length cap] w fun e w' => e = .returned (.string (bs (put cs))) ∧ Below w.heap.size w w' := by
  have HR := Lib.hid hr
  have HT := Lib.hid T
  have hbf := obld_fresh w
  have hba : Below w.heap.size w (w.alloc (.cells #[.pointer none, .slice none 0 0] 126)) := (Below.refl _ _).alloc (Nat.le_refl _) _
  have HR0 := Lib.hid (show WrRel cs w w.heap.size cs.length (.int .i64 0) (w.alloc (.cells #[.pointer none, .slice none 0 0] 126)) from ⟨0, by omega, rfl, by rw [List.take_zero]; exact hbf, hba⟩)
  have HPL := Lib.hid (fun i => put_take_len cs hcs i)
  have HI := Lib.hid (fun a (ha : a ≤ 9223372036854775807) w1 (h : Tabs w1) => itoa_walk a ha w1 h)
  have HCS := Lib.hid hcs
  clear hr T hbf hba hcs
  go_enter Tryz.func131, Tryz.ntmps131
  go_wp2
  go_loopg [8] cs.length (fun g v wr => WrRel cs w w.heap.size g v wr)
  case atStart => exact HR0.out
  case round =>
    clear HR0
    obtain ⟨i, hig, rfl, hB, hb⟩ := hrel
    cases gk with
    | zero =>
      obtain rfl : i = cs.length := by omega
      rw [List.take_length] at hB
      clear hig
      go_wp2_with fail
      refine (bstr _ _ _ _ hB hb.size).mono ?_
      rintro e w1 ⟨rfl, b1⟩
      have hb2 := hb.trans b1
      clear b1
      go_wp2
      go_ret
      exact ⟨rfl, hb2⟩
    | succ g =>
      have hin : i < cs.length := by omega
      have hx : cs.getD i 0 ≤ 4294967295 := HCS.out _ (by simp [List.getD, List.getElem?_eq_getElem hin])
      rcases HR.out.below hb with h0 | ⟨rb, off, rfl, hrb, hrc⟩
      · omega
      · have hcell := hrc i hin
        have hpl := HPL.out i
        have hnl := nm_len (cs.getD i 0) (by omega)
        unfold fz at hcell
        rcases Nat.eq_zero_or_pos i with h0 | h0
        · subst h0
          have hpf := put_first cs hin
          have HPF := Lib.hid hpf
          rw [List.take_zero] at hB
          rw [Nat.add_zero] at hcell
          clear hpf hrc
          generalize hX : cs.getD 0 0 = X at *
          clear hX
          go_wp2_with fail
          refine (HI.out X (by omega) wr (HT.out.below hb)).mono ?_
          rintro e w1 ⟨rfl, d1⟩
          have B1 := bld_below hB d1
          have b1 := hb.trans (d1.mono hb.size)
          clear d1 hB hb
          go_wp2_with fail
          refine (wstr _ _ _ (nm X) w1 B1 (by simp [put]; omega) b1.size).mono ?_
          rintro e w2 ⟨rfl, B2, k2, -⟩
          have b2 := b1.trans k2
          clear b1 k2 B1
          go_wp2
          go_roundg g
          case measure => omega
          case rel => exact ⟨1, by omega, by simp, by rw [HPF.out]; exact B2, b2⟩
        · have hi0 : (0 : Int) < (i : Nat) := by omega
          have HPS := Lib.hid (put_snoc cs i hin h0)
          clear hrc
          generalize hX : cs.getD i 0 = X at *
          clear hX
          generalize put (cs.take i) = PT at *
          go_wp2_with fail
          refine (wstr _ _ PT [46] wr hB (by simp; omega) hb.size).mono ?_
          rintro e w1 ⟨rfl, B1, k1, -⟩
          have b1 := hb.trans k1
          clear hb k1 hB
          go_wp2_with fail
          refine (HI.out X (by omega) w1 (HT.out.below b1)).mono ?_
          rintro e w2 ⟨rfl, d2⟩
          have B2 := bld_below B1 d2
          have b2 := b1.trans (d2.mono b1.size)
          clear d2 B1 b1
          go_wp2_with fail
          refine (wstr _ _ _ (nm X) w2 B2 (by simp; omega) b2.size).mono ?_
          rintro e w3 ⟨rfl, B3, k3, -⟩
          have b3 := b2.trans k3
          clear b2 k3 B2
          go_wp2
          go_roundg g
          case measure => omega
          case rel => exact ⟨i + 1, by omega, by simp, by rw [HPS.out]; exact B3, b3⟩
end Go.Proofs.YtdgnhcbhbpffmaaGreatDoor
/- oid's Encode, walked. -/
namespace Go.Proofs.YtdgnhcbhbpffmaaGreatDoor
open Go.ChangeShapes Go.WideShapes Go.ChangeAt Go.RowKit K O6
set_option linter.unusedVariables false

theorem own_block {w : World} {B : Nat} {T : TypeId} {v : Value} {cs : List Nat} (h : OwnI w B T v cs) (h0 : 0 < cs.length) :
    ∃ g cap cur, v = .slice (some ⟨g, 0, none⟩) cs.length cap ∧ B ≤ g ∧ w.heap[g]? = some (.cells cur T (0, 0)) ∧ cs.length ≤ cap ∧ ∀ i, i < cs.length → w.cell? ⟨g, i, none⟩ = some (.int .i64 ((cs.getD i 0 : Nat) : Int)) := by
  have hf := h.form
  rcases h.2 with ⟨hv, h1⟩ | ⟨g, cap, cur, hv, hB, hh, hle, hm, hs, ht⟩
  · omega
  · obtain ⟨ao, cp, hv2, hc⟩ := hf
    rw [hv] at hv2
    injection hv2 with e1 e2 e3
    rcases hc with hc | ⟨g2, ha, _, _, hcell⟩
    · omega
    · rw [← e1] at ha
      injection ha with ha
      injection ha with ha
      subst ha
      exact ⟨g, cap, cur, hv, hB, hh, hle, fun i hi => (hcell i hi).1⟩
def EncRel (ns : List Nat) (w : World) (b g : Nat) (v : Value) (wr : World) : Prop :=
  ∃ i, i + g = ns.length ∧ v = .int .i64 (i : Nat) ∧ Bld b b ((ns.take i).flatMap P1.grp) wr ∧ Below b w wr
theorem flat_snoc (ns : List Nat) (i : Nat) (hi : i < ns.length) : (ns.take (i + 1)).flatMap P1.grp = (ns.take i).flatMap P1.grp ++ P1.grp (ns.getD i 0) := by
  rw [List.take_succ_eq_append_getElem hi, List.flatMap_append]
  simp [List.getD, List.getElem?_eq_getElem hi]
theorem flat_len (ns : List Nat) (i : Nat) : ((ns.take i).flatMap P1.grp).length ≤ 9 * ns.length := by
  have h : ∀ l : List Nat, (l.flatMap P1.grp).length ≤ 9 * l.length := by
    intro l
    induction l with
    | nil => simp
    | cons a l ih =>
      have := P1.grp_length a
      rw [List.flatMap_cons, List.length_append, List.length_cons]; omega
  have h1 := h (ns.take i)
  rw [List.length_take] at h1
  have : min i ns.length ≤ ns.length := Nat.min_le_right _ _
  omega
theorem Below_drew1 {B : Nat} {a b : World} (h : Below B a b) : Below B a b.drew := ⟨h.os, h.tape, h.output, h.size, h.block⟩
theorem enc_cells {w1 : World} {g : Nat} {cur : Array Value} {T : TypeId} {x y : Nat} {r : List Nat} (hh : w1.heap[g]? = some (.cells cur T (0, 0)))
    (hc : ∀ i, i < (x :: y :: r).length → w1.cell? ⟨g, i, none⟩ = some (.int .i64 (((x :: y :: r).getD i 0 : Nat) : Int))) :
    RdZ ((w1.setCell ⟨g, 1, none⟩ (.int .i64 ((y : Int) + 40 * (x : Int)))).drew) (some ⟨g, 1, none⟩) ((40 * x + y) :: r).length (fz ((40 * x + y) :: r)) := by
  have hs := rowSet hh 1 (.int .i64 ((y : Int) + 40 * (x : Int)))
  refine .inr ⟨g, 1, rfl, lt_of_block hs, fun i hi => ?_⟩
  show (w1.setCell ⟨g, 1, none⟩ (.int .i64 ((y : Int) + 40 * (x : Int)))).cell? ⟨g, 1 + i, none⟩ = _
  rw [cellRow hs]
  have h1 := hc 1 (by simp)
  rw [cellRow hh] at h1
  have hsz : 1 < cur.size := (Array.getElem?_eq_some_iff.1 h1).1
  cases i with
  | zero =>
    rw [Nat.add_zero, Array.getElem?_setIfInBounds_self, if_pos hsz]
    unfold fz
    rw [show ((40 * x + y) :: r).getD 0 0 = 40 * x + y from rfl]
    congr 2; omega
  | succ i =>
    rw [Array.getElem?_setIfInBounds_ne (by omega)]
    have h2 := hc (1 + (i + 1)) (by simp at hi ⊢; omega)
    rw [cellRow hh] at h2
    rw [h2, show 1 + (i + 1) = (i + 1) + 1 by omega]; rfl
set_option maxRecDepth 100000 in
set_option maxHeartbeats 2000000 in
theorem encode_walk (s : List UInt8) (hs : s.length ≤ 1000000) (w : World) (T : Tabs w) :
    Calls Tryz.prog 119 #[.string (bs s)] w fun e w' => e = .returned (.tuple #[.string (bs (enS s)), .int .i64 (arE s : Nat)]) ∧ Below w.heap.size w w' := by
  have HA := Lib.hid (arcs_walk s hs w T)
  unfold ArPost at HA
  cases hx : arcs s with
  | none =>
    have h1 := ar_none hx
    have h2 : enS s = [] := by unfold enS; rw [hx]; rfl
    rw [h1.1, h1.2] at HA
    rw [h1.1, h2]
    clear h1 h2 hx
    go_enter Tryz.func119, Tryz.ntmps119
    go_wp2_with fail
    refine HA.out.mono ?_
    rintro e w1 ⟨va, rfl, hoa, hb1⟩
    go_wp2
    go_ret2
    exact ⟨rfl, hb1⟩
  | some l =>
    have h1 := ar_some hx
    have h2 : enS s = eb l := by unfold enS; rw [hx, h1.2]; rfl
    rw [h1.1, h1.2] at HA
    rw [h1.1, h2]
    have hz := ((arcs_iff s l).1 hx).1
    have hlen := isArcs_len hz
    obtain ⟨x, y, r, rfl, hxy, hrr⟩ := isArcs_two hz
    have hb : eb (x :: y :: r) = ((40 * x + y) :: r).flatMap P1.grp := eb_two x y r
    rw [hb]
    have hL : (x :: y :: r).length = r.length + 2 := rfl
    have hr2 : r.length ≤ 126 := by omega
    have hns : ∀ a ∈ (40 * x + y) :: r, a ≤ 4294967295 := by
      intro a ha
      rcases List.mem_cons.1 ha with h | h
      · rw [h]; omega
      · exact hrr a h
    have hx2 : x ≤ 2 := by omega
    have hy2 : y ≤ 4294967215 := by omega
    have HNS := Lib.hid hns
    have hnl : ((40 * x + y) :: r).length = r.length + 1 := rfl
    clear h1 h2 hx hz hxy hrr hb hns
    go_enter Tryz.func119, Tryz.ntmps119
    go_wp2_with fail
    refine HA.out.mono ?_
    rintro e w1 ⟨va, rfl, hoa, hb1⟩
    obtain ⟨g, cap, cur, rfl, hBg, hh, hlc, hc⟩ := own_block hoa (by omega)
    rw [hL] at hlc ⊢
    have c0 := hc 0 (by omega)
    have c1 := hc 1 (by omega)
    have HC := Lib.hid hc
    have HH := Lib.hid hh
    have f1 : w1.frozen? ⟨g, 1, none⟩ = false := freeRow hh 1
    rw [show (x :: y :: r).getD 0 0 = x from rfl] at c0
    rw [show (x :: y :: r).getD 1 0 = y from rfl] at c1
    have z1 : IntKind.i64.wrap (40 * (x : Int)) = 40 * (x : Int) := IntWalk.i64_in _ (by omega)
    have z2 : IntKind.i64.wrap ((y : Int) + 40 * (x : Int)) = (y : Int) + 40 * (x : Int) := IntWalk.i64_in _ (by omega)
    have l1 : (1 : Int) ≤ (r.length + 2 : Nat) := by omega
    have l2 : (1 : Nat) ≤ cap := by omega
    clear hc hh hoa HA
    go_wp2_with fail
    go_region_with (fail)
    all_goals
      have hR := enc_cells HH.out HC.out
      have hB2 := Below_drew1 (hb1.setCell (p := ⟨g, 1, none⟩) hBg (.int .i64 ((y : Int) + 40 * (x : Int))))
      clear c0 c1 f1
      generalize (w1.setCell ⟨g, 1, none⟩ (.int .i64 ((y : Int) + 40 * (x : Int)))).drew = w2 at *
      have HBF := Lib.hid (obld_fresh w2)
      have HBA := Lib.hid (show Below w2.heap.size w2 (w2.alloc (.cells #[.pointer none, .slice none 0 0] 126)) from (Below.refl _ _).alloc (Nat.le_refl _) _)
      have HG := Lib.hid (fun m (h : m ≤ 4294967295) w3 => octGroups_nat m (by omega) w3)
      have HR := Lib.hid hR
      have HFL := Lib.hid (flat_snoc ((40 * x + y) :: r))
      have HGL := Lib.hid (flat_len ((40 * x + y) :: r))
      have HNL := Lib.hid hnl
      clear hR HH HC hlen hL z1 z2 l1 l2 hx2 hy2 hnl
      generalize hns : (40 * x + y) :: r = ns at *
      have HNQ := Lib.hid hns
      clear hns
      go_wp2
      go_loopg [33] (r.length + 1) (fun g v wr => EncRel ns w2 w2.heap.size g v wr)
      case atStart => exact ⟨0, by rw [HNL.out]; omega, rfl, by rw [List.take_zero]; exact HBF.out, HBA.out⟩
      case round =>
        clear HBF HBA
        obtain ⟨i, hig, rfl, hB, hb⟩ := hrel
        rw [HNL.out] at hig
        cases gk with
        | zero =>
          obtain rfl : i = r.length + 1 := by omega
          have hall : ns.take (r.length + 1) = ns := List.take_of_length_le (by rw [HNL.out]; exact Nat.le_refl _)
          rw [hall] at hB
          clear hig hall
          go_wp2_with fail
          refine (bstr _ _ _ _ hB hb.size).mono ?_
          rintro e w3 ⟨rfl, b3⟩
          have hb3 := hB2.trans ((hb.trans b3).mono hB2.size)
          clear b3
          go_wp2
          go_ret2
          rw [HNQ.out]
          exact ⟨rfl, hb3⟩
        | succ g =>
          have hin : i < r.length + 1 := by omega
          have hin2 : (i : Int) < (r.length : Int) + 1 := by omega
          have hx : ns.getD i 0 ≤ 4294967295 := HNS.out _ (by simp [List.getD, List.getElem?_eq_getElem (show i < ns.length by rw [HNL.out]; exact hin)])
          rcases HR.out.below hb with h0 | ⟨rb, off, hra, hrb, hrc⟩
          · rw [HNL.out] at h0; omega
          · injection hra with hra
            injection hra with h1 h2 h3
            subst h1 h2
            have hcell := hrc i (by rw [HNL.out]; exact hin)
            unfold fz at hcell
            have HFS := Lib.hid (HFL.out i (by rw [HNL.out]; exact hin))
            have hgl := HGL.out i
            rw [HNL.out] at hgl
            have hgl2 := P1.grp_length (ns.getD i 0)
            clear hrc
            generalize hX : ns.getD i 0 = X at *
            clear hX
            generalize (ns.take i).flatMap P1.grp = PT at *
            go_wp2_with fail
            refine (HG.out X hx _).mono ?_
            rintro e w3 ⟨rfl, d3⟩
            have B3 := bld_below hB d3
            have b3 := hb.trans (d3.mono hb.size)
            clear d3 hB hb
            go_wp2_with fail
            refine (wstr _ _ PT (P1.grp X) w3 B3 (by omega) b3.size).mono ?_
            rintro e w4 ⟨rfl, B4, k4, -⟩
            have b4 := b3.trans k4
            clear b3 k4 B3
            go_wp2
            go_roundg g
            case measure => omega
            case rel => exact ⟨i + 1, by rw [HNL.out]; omega, by simp, by rw [HFS.out]; exact B4, b4⟩
end Go.Proofs.YtdgnhcbhbpffmaaGreatDoor
/- octet's Reader: Groups, Left, Done, walked at this translation. -/
namespace Go.Proofs.YtdgnhcbhbpffmaaGreatDoor
open Go.ChangeShapes Go.WideShapes Go.ChangeAt Go.RowKit P1 K
set_option linter.unusedVariables false

namespace RG
def FRel (l : List UInt8) (most : Int) (vn vi : Value) : Prop :=
  ∃ i n : Nat, i ≤ 9 ∧ i ≤ l.length ∧ n < 128 ^ i ∧ vn = .int .i64 n ∧ vi = .int .i64 i ∧ (0 < i → ¬ byt l 0 = 128) ∧ rgo l most 9 0 0 = rgo l most (9 - i) i n

set_option maxRecDepth 100000 in
theorem first_walk (l : List UInt8) (most : Int) (hl : l.length ≤ 140737488351232) (h0 : -9223372036854775808 ≤ most) (h1 : most ≤ 9223372036854775807) (w : World) :
    Calls Tryz.prog 140 #[.string (bs l), .int .i64 most] w fun e w' => e = .returned (.tuple #[.int .i64 (rgo l most 9 0 0).1, .int .i64 (rgo l most 9 0 0).2.1, .int .i64 (rgo l most 9 0 0).2.2]) ∧ w = w' := by
  go_enter Tryz.func140, Tryz.ntmps140
  go_wp2
  go_loop [4, 8] (fun vn vi => FRel l most vn vi) (fun vn vi => 9 - (intOf vi).toNat)
  case atStart => exact ⟨0, 0, by omega, by omega, by omega, rfl, rfl, by omega, rfl⟩
  case round =>
    obtain ⟨i, n, hi, hil, hn, rfl, rfl, hb, he⟩ := hrel
    have He := Lib.hid he; have Hb := Lib.hid hb
    clear hb he
    by_cases h9 : i < 9
    · have hle : (128 : Nat) ^ i ≤ 128 ^ 8 := Nat.pow_le_pow_right (by omega) (by omega)
      have hn8 : n < 72057594037927936 := by omega
      have Hn := Lib.hid hn; clear hle hn
      have hbt := byt_lt l i
      by_cases hend : i = l.length
      · have hE : rgo l most 9 0 0 = (0, 0, 10) := by
          rw [He.out, show 9 - i = (8 - i) + 1 by omega, hend]; exact rgo_end l most _ n
        have HE := Lib.hid hE
        subst hend
        clear hE
        go_wp2
        go_ret3
        rw [HE.out]
        exact ⟨rfl, rfl⟩
      · have hlt : i < l.length := by omega
        have hne : (((i : Nat) : Int) == ((l.length : Nat) : Int)) = false := by rw [beq_eq_false_iff_ne]; omega
        clear hend
        by_cases hf : i = 0 ∧ byt l 0 = 128
        · obtain ⟨rfl, hf⟩ := hf
          have hE : rgo l most 9 0 0 = (0, 0, 3) := rgo_form l most 8 0 hlt hf
          have HE := Lib.hid hE
          have hf' : (((byt l 0 : Nat) : Int) == 128) = true := by rw [beq_iff_eq]; omega
          clear hE hf
          go_wp2
          go_ret3
          rw [HE.out]
          exact ⟨rfl, rfl⟩
        · have hq : (i = 0 ∧ (((byt l 0 : Nat) : Int) == 128) = false) ∨ ((((i : Nat) : Int) == 0) = false) := by
            by_cases hi0 : i = 0
            · left; exact ⟨hi0, by rw [beq_eq_false_iff_ne]; omega⟩
            · right; rw [beq_eq_false_iff_ne]; omega
          by_cases hm : most < ((n * 128 + byt l i % 128 : Nat) : Int)
          · have hE : rgo l most 9 0 0 = (0, 0, 2) := by rw [He.out, show 9 - i = (8 - i) + 1 by omega]; exact rgo_long l most _ i n hlt hf hm
            have HE := Lib.hid hE
            have hm' : most < (n : Int) * 128 + (byt l i : Int) % 128 := by omega
            clear hE hm hf
            rcases hq with ⟨rfl, hq⟩ | hq
            all_goals
              go_wp2
              go_ret3
              rw [HE.out]
              exact ⟨rfl, rfl⟩
          · have hm' : (n : Int) * 128 + (byt l i : Int) % 128 ≤ most := by omega
            by_cases hs : byt l i < 128
            · have hE : rgo l most 9 0 0 = (n * 128 + byt l i % 128, i + 1, 0) := by rw [He.out, show 9 - i = (8 - i) + 1 by omega]; exact rgo_done l most _ i n hlt hf hm hs
              have HE := Lib.hid hE
              clear hE hm hf
              rcases hq with ⟨rfl, hq⟩ | hq
              all_goals
                go_wp2
                go_ret3
                rw [HE.out]
                exact ⟨rfl, rfl⟩
            · have hE : rgo l most 9 0 0 = rgo l most (9 - (i + 1)) (i + 1) (n * 128 + byt l i % 128) := by rw [He.out, show 9 - i = (8 - i) + 1 by omega, show 9 - (i + 1) = 8 - i by omega]; exact rgo_more l most _ i n hlt hf hm hs
              have HE := Lib.hid hE
              have hb1 : ¬ byt l 0 = 128 := by
                rcases Nat.eq_zero_or_pos i with h | h
                · exact fun e => hf ⟨h, e⟩
                · exact Hb.out h
              have Hb1 := Lib.hid hb1
              clear hE hm hf hb1
              rcases hq with ⟨rfl, hq⟩ | hq
              all_goals
                go_wp2
                go_round
                case measure => first | (simp [intOf]; done) | (simp [intOf]; omega)
                case rel =>
                  refine ⟨_, _, by omega, by omega, ?_, ?_, ?_, fun _ => Hb1.out, HE.out⟩
                  · have := Hn.out
                    rw [Nat.pow_succ]; omega
                  · simp
                  · simp
    · obtain rfl : i = 9 := by omega
      have hE : rgo l most 9 0 0 = (0, 0, 3) := He.out
      have HE := Lib.hid hE
      clear hE hn
      go_wp2
      go_ret3
      rw [HE.out]
      exact ⟨rfl, rfl⟩

theorem left_walk (b T : Nat) (s : List UInt8) (p : Nat) (c : Int) (ok : Ok s p c) (w : World) (h : Rdr w b T s p c) :
    Calls Tryz.prog 67 #[.pointer (some ⟨b, 0, none⟩)] w fun e w' => e = .returned (.int .i64 (((s.length - p : Nat) : Nat) : Int)) ∧ ∃ n, w' = w.drewN n := by
  obtain ⟨hs, hp, _, _⟩ := ok
  obtain ⟨c0, c1, c2, _, _⟩ := h.cells
  clear h
  go_enter Tryz.func67, Tryz.ntmps67
  go_wp2
  go_quiet (fail)
  go_wp2
  go_ret
  refine ⟨?_, nq, rfl⟩
  show Ending.returned (.int .i64 ((s.length : Int) - p)) = _
  rw [show ((s.length : Int) - p) = ((s.length - p : Nat) : Int) by omega]

theorem code_walk (b T : Nat) (s : List UInt8) (p : Nat) (c : Int) (w : World) (h : Rdr w b T s p c) :
    Calls Tryz.prog 65 #[.pointer (some ⟨b, 0, none⟩)] w fun e w' => e = .returned (.int .i64 c) ∧ w = w' := by
  obtain ⟨c0, c1, c2, _, _⟩ := h.cells
  clear h
  go_enter Tryz.func65, Tryz.ntmps65
  go_wp2
  go_ret
  exact ⟨rfl, rfl⟩

theorem refuse_walk (b T : Nat) (s : List UInt8) (p : Nat) (c d : Int) (w : World) (h : Rdr w b T s p c) :
    Calls Tryz.prog 88 #[.pointer (some ⟨b, 0, none⟩), .int .i64 d] w fun e w' => e = .returned (.tuple #[]) ∧ Kp [b] w w' ∧ Rdr w' b T s p (newc c d) := by
  obtain ⟨c0, c1, c2, _, f2⟩ := h.cells
  have H := Lib.hid h; clear h
  by_cases hc : c = 0
  · subst hc
    go_enter Tryz.func88, Tryz.ntmps88
    go_wp2
    go_end0
    exact ⟨rfl, (Kp.refl _ _).set _ (by simp) _, H.out.setC d⟩
  · have hc' : (c == 0) = false := by rw [beq_eq_false_iff_ne]; exact hc
    have Hc := Lib.hid hc; clear hc
    go_enter Tryz.func88, Tryz.ntmps88
    go_wp2
    go_end0
    exact ⟨rfl, Kp.refl _ _, by rw [newc_not _ _ Hc.out]; exact H.out⟩
set_option maxRecDepth 100000 in
theorem rGroups_walk (b T : Nat) (s : List UInt8) (p : Nat) (c most : Int) (ok : Ok s p c) (h0 : -9223372036854775808 ≤ most) (h1 : most ≤ 9223372036854775807) (w : World) (h : Rdr w b T s p c) :
    Calls Tryz.prog 129 #[.pointer (some ⟨b, 0, none⟩), .int .i64 most] w fun e w' => e = .returned (.int .i64 (rdG s p c most).1) ∧ Kp [b] w w' ∧ Rdr w' b T s (rdG s p c most).2.1 (rdG s p c most).2.2 := by
  obtain ⟨hs, hp, _, _⟩ := ok
  have hfa := rgo_facts s p most
  obtain ⟨c0, c1, c2, _, f2⟩ := h.cells
  have H := Lib.hid h; clear h
  have HF := Lib.hid hfa; clear hfa
  have hdl : (s.drop p).length ≤ 140737488351232 := by rw [List.length_drop]; omega
  have HD := Lib.hid hdl; clear hdl
  go_enter Tryz.func129, Tryz.ntmps129
  go_wp2
  go_quiet ((go_at_call 140; refine Calls.quiet_mk (first_walk _ most HD.out h0 h1 _)))
  go_wp2_with fail
  refine (refuse_walk b T s p c _ (w.drewN nq) H.out).mono ?_
  rintro e w1 ⟨rfl, kp, h1'⟩
  have kp' := kp.ofDrewN
  clear c0 c1 c2 f2 kp
  obtain ⟨c0, c1, c2, f1, f2⟩ := h1'.cells
  have H1 := Lib.hid h1'; clear h1'
  by_cases hd : newc c (rgo (s.drop p) most 9 0 0).2.2 = 0
  · have HE := Lib.hid (rdG_0 s p c most hd)
    have hz := HF.out
    generalize (rgo (s.drop p) most 9 0 0).1 = r1 at *
    generalize (rgo (s.drop p) most 9 0 0).2.1 = r2 at *
    generalize newc c (rgo (s.drop p) most 9 0 0).2.2 = d at *
    subst hd
    obtain ⟨_, hz2, _⟩ := hz
    go_wp2
    go_ret
    rw [HE.out]
    exact ⟨rfl, kp'.set _ (by simp) _, by have := H1.out.setP (p + r2); simpa using this⟩
  · have HE := Lib.hid (rdG_d s p c most hd)
    have hn : ((newc c (rgo (s.drop p) most 9 0 0).2.2) != 0) = true := by rw [bne_iff_ne]; exact hd
    clear hd
    generalize newc c (rgo (s.drop p) most 9 0 0).2.2 = d at *
    go_wp2
    go_ret
    rw [HE.out]
    exact ⟨rfl, kp', H1.out⟩

theorem rDone_walk (b T : Nat) (s : List UInt8) (p : Nat) (c : Int) (ok : Ok s p c) (w : World) (h : Rdr w b T s p c) :
    Calls Tryz.prog 130 #[.pointer (some ⟨b, 0, none⟩)] w fun e w' => e = .returned (.int .i64 (rdD s p c)) ∧ ∃ n, w' = w.drewN n := by
  obtain ⟨c0, c1, c2, _, _⟩ := h.cells
  have H := Lib.hid h; clear h
  by_cases hc : c = 0
  · subst hc
    by_cases hp : p < s.length
    · have e : rdD s p 0 = 3 := by simp [rdD, hp]
      rw [e]; clear e
      have hlt : (0 : Int) < ((s.length - p : Nat) : Int) := by omega
      go_enter Tryz.func130, Tryz.ntmps130
      go_wp2_with (go_at_call 67; refine (left_walk b T s p 0 ok w H.out).mono ?_; rintro e w1 ⟨rfl, n, rfl⟩)
      go_ret
      exact ⟨rfl, _, rfl⟩
    · have e : rdD s p 0 = 0 := by simp [rdD, hp]
      rw [e]; clear e
      have hle : ((s.length - p : Nat) : Int) ≤ 0 := by omega
      have Hp := Lib.hid hp; clear hp
      go_enter Tryz.func130, Tryz.ntmps130
      go_wp2_with (go_at_call 67; refine (left_walk b T s p 0 ok w H.out).mono ?_; rintro e w1 ⟨rfl, n, rfl⟩)
      go_ret
      exact ⟨rfl, _, rfl⟩
  · have e : rdD s p c = c := by simp [rdD, hc]
    rw [e]; clear e
    have hn : (c == 0) = false := by rw [beq_eq_false_iff_ne]; exact hc
    clear hc
    go_enter Tryz.func130, Tryz.ntmps130
    go_wp2
    go_ret
    exact ⟨rfl, 0, rfl⟩

theorem read_walk (s : List UInt8) (w : World) :
    Calls Tryz.prog 61 #[.string (bs s)] w fun e w' => e = .returned (.pointer (some ⟨w.heap.size, 0, none⟩)) ∧ Kp [] w w' ∧ w'.heap.size = w.heap.size + 1 ∧ Rdr w' w.heap.size 140 s 0 0 := by
  go_enter Tryz.func61, Tryz.ntmps61
  go_wp2
  go_ret
  exact ⟨rfl, (Kp.refl _ _).alloc _, by simp, rowNew w _⟩
end RG
end Go.Proofs.YtdgnhcbhbpffmaaGreatDoor
