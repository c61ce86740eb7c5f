/- Texts on the program and on the document, joined: OidW, Pts, BerB. -/
import Derived.Test.YtgjmnlgjdgjdbaaDoorMa21
import Derived.Deep.RegionWith
import Derived.Test.YtgjmnlgjdgjdbaaDoorMa01
import Derived.Below
import Derived.Laws.OwnMore
import Derived.Laws.AppendOwn
import Derived.Deep.Onto
import Derived.Test.YtgjmnlgjdgjdbaaDoorMa06
/- oid's Encode, walked. -/
namespace Go.Proofs.YtgjmnlgjdgjdbaaDoor
open Go.ChangeShapes Go.WideShapes Go.ChangeAt Go.RowKit K O6
set_option linter.unusedVariables false

theorem own_block {w : World} {B : Nat} {T : TypeId} {v : Value} {cs : List Nat} (h : OwnI w B T v cs) (h0 : 0 < cs.length) :
    ∃ g cap cur, v = .slice (some ⟨g, 0, none⟩) cs.length cap ∧ B ≤ g ∧ w.heap[g]? = some (.cells cur T (0, 0)) ∧ cs.length ≤ cap ∧ ∀ i, i < cs.length → w.cell? ⟨g, i, none⟩ = some (.int .i64 ((cs.getD i 0 : Nat) : Int)) := by
  have hf := h.form
  rcases h.2 with ⟨hv, h1⟩ | ⟨g, cap, cur, hv, hB, hh, hle, hm, hs, ht⟩
  · omega
  · obtain ⟨ao, cp, hv2, hc⟩ := hf
    rw [hv] at hv2
    injection hv2 with e1 e2 e3
    rcases hc with hc | ⟨g2, ha, _, _, hcell⟩
    · omega
    · rw [← e1] at ha
      injection ha with ha
      injection ha with ha
      subst ha
      exact ⟨g, cap, cur, hv, hB, hh, hle, fun i hi => (hcell i hi).1⟩
def EncRel (ns : List Nat) (w : World) (b g : Nat) (v : Value) (wr : World) : Prop :=
  ∃ i, i + g = ns.length ∧ v = .int .i64 (i : Nat) ∧ Bld b b ((ns.take i).flatMap P1.grp) wr ∧ Below b w wr
theorem flat_snoc (ns : List Nat) (i : Nat) (hi : i < ns.length) : (ns.take (i + 1)).flatMap P1.grp = (ns.take i).flatMap P1.grp ++ P1.grp (ns.getD i 0) := by
  rw [List.take_succ_eq_append_getElem hi, List.flatMap_append]
  simp [List.getD, List.getElem?_eq_getElem hi]
theorem flat_len (ns : List Nat) (i : Nat) : ((ns.take i).flatMap P1.grp).length ≤ 9 * ns.length := by
  have h : ∀ l : List Nat, (l.flatMap P1.grp).length ≤ 9 * l.length := by
    intro l
    induction l with
    | nil => simp
    | cons a l ih =>
      have := P1.grp_length a
      rw [List.flatMap_cons, List.length_append, List.length_cons]; omega
  have h1 := h (ns.take i)
  rw [List.length_take] at h1
  have : min i ns.length ≤ ns.length := Nat.min_le_right _ _
  omega
theorem Below_drew1 {B : Nat} {a b : World} (h : Below B a b) : Below B a b.drew := ⟨h.os, h.tape, h.output, h.size, h.block⟩
theorem enc_cells {w1 : World} {g : Nat} {cur : Array Value} {T : TypeId} {x y : Nat} {r : List Nat} (hh : w1.heap[g]? = some (.cells cur T (0, 0)))
    (hc : ∀ i, i < (x :: y :: r).length → w1.cell? ⟨g, i, none⟩ = some (.int .i64 (((x :: y :: r).getD i 0 : Nat) : Int))) :
    RdZ ((w1.setCell ⟨g, 1, none⟩ (.int .i64 ((y : Int) + 40 * (x : Int)))).drew) (some ⟨g, 1, none⟩) ((40 * x + y) :: r).length (fz ((40 * x + y) :: r)) := by
  have hs := rowSet hh 1 (.int .i64 ((y : Int) + 40 * (x : Int)))
  refine .inr ⟨g, 1, rfl, lt_of_block hs, fun i hi => ?_⟩
  show (w1.setCell ⟨g, 1, none⟩ (.int .i64 ((y : Int) + 40 * (x : Int)))).cell? ⟨g, 1 + i, none⟩ = _
  rw [cellRow hs]
  have h1 := hc 1 (by simp)
  rw [cellRow hh] at h1
  have hsz : 1 < cur.size := (Array.getElem?_eq_some_iff.1 h1).1
  cases i with
  | zero =>
    rw [Nat.add_zero, Array.getElem?_setIfInBounds_self, if_pos hsz]
    unfold fz
    rw [show ((40 * x + y) :: r).getD 0 0 = 40 * x + y from rfl]
    congr 2; omega
  | succ i =>
    rw [Array.getElem?_setIfInBounds_ne (by omega)]
    have h2 := hc (1 + (i + 1)) (by simp at hi ⊢; omega)
    rw [cellRow hh] at h2
    rw [h2, show 1 + (i + 1) = (i + 1) + 1 by omega]; rfl
set_option maxRecDepth 100000 in
set_option maxHeartbeats 2000000 in
theorem encode_walk (s : List UInt8) (hs : s.length ≤ 1000000) (w : World) (T : Tabs w) :
    Calls Tryd.prog 42 #[.string (bs s)] w fun e w' => e = .returned (.tuple #[.string (bs (enS s)), .int .i64 (arE s : Nat)]) ∧ Below w.heap.size w w' := by
  have HA := Lib.hid (arcs_walk s hs w T)
  unfold ArPost at HA
  cases hx : arcs s with
  | none =>
    have h1 := ar_none hx
    have h2 : enS s = [] := by unfold enS; rw [hx]; rfl
    rw [h1.1, h1.2] at HA
    rw [h1.1, h2]
    clear h1 h2 hx
    go_enter Tryd.func42, Tryd.ntmps42
    go_wp2_with fail
    refine HA.out.mono ?_
    rintro e w1 ⟨va, rfl, hoa, hb1⟩
    go_wp2
    go_ret2
    exact ⟨rfl, hb1⟩
  | some l =>
    have h1 := ar_some hx
    have h2 : enS s = eb l := by unfold enS; rw [hx, h1.2]; rfl
    rw [h1.1, h1.2] at HA
    rw [h1.1, h2]
    have hz := ((arcs_iff s l).1 hx).1
    have hlen := isArcs_len hz
    obtain ⟨x, y, r, rfl, hxy, hrr⟩ := isArcs_two hz
    have hb : eb (x :: y :: r) = ((40 * x + y) :: r).flatMap P1.grp := eb_two x y r
    rw [hb]
    have hL : (x :: y :: r).length = r.length + 2 := rfl
    have hr2 : r.length ≤ 126 := by omega
    have hns : ∀ a ∈ (40 * x + y) :: r, a ≤ 4294967295 := by
      intro a ha
      rcases List.mem_cons.1 ha with h | h
      · rw [h]; omega
      · exact hrr a h
    have hx2 : x ≤ 2 := by omega
    have hy2 : y ≤ 4294967215 := by omega
    have HNS := Lib.hid hns
    have hnl : ((40 * x + y) :: r).length = r.length + 1 := rfl
    clear h1 h2 hx hz hxy hrr hb hns
    go_enter Tryd.func42, Tryd.ntmps42
    go_wp2_with fail
    refine HA.out.mono ?_
    rintro e w1 ⟨va, rfl, hoa, hb1⟩
    obtain ⟨g, cap, cur, rfl, hBg, hh, hlc, hc⟩ := own_block hoa (by omega)
    rw [hL] at hlc ⊢
    have c0 := hc 0 (by omega)
    have c1 := hc 1 (by omega)
    have HC := Lib.hid hc
    have HH := Lib.hid hh
    have f1 : w1.frozen? ⟨g, 1, none⟩ = false := freeRow hh 1
    rw [show (x :: y :: r).getD 0 0 = x from rfl] at c0
    rw [show (x :: y :: r).getD 1 0 = y from rfl] at c1
    have z1 : IntKind.i64.wrap (40 * (x : Int)) = 40 * (x : Int) := IntWalk.i64_in _ (by omega)
    have z2 : IntKind.i64.wrap ((y : Int) + 40 * (x : Int)) = (y : Int) + 40 * (x : Int) := IntWalk.i64_in _ (by omega)
    have l1 : (1 : Int) ≤ (r.length + 2 : Nat) := by omega
    have l2 : (1 : Nat) ≤ cap := by omega
    clear hc hh hoa HA
    go_wp2_with fail
    go_region_with (fail)
    all_goals
      have hR := enc_cells HH.out HC.out
      have hB2 := Below_drew1 (hb1.setCell (p := ⟨g, 1, none⟩) hBg (.int .i64 ((y : Int) + 40 * (x : Int))))
      clear c0 c1 f1
      generalize (w1.setCell ⟨g, 1, none⟩ (.int .i64 ((y : Int) + 40 * (x : Int)))).drew = w2 at *
      have HBF := Lib.hid (obld_fresh w2)
      have HBA := Lib.hid (show Below w2.heap.size w2 (w2.alloc (.cells #[.pointer none, .slice none 0 0] 51)) from (Below.refl _ _).alloc (Nat.le_refl _) _)
      have HG := Lib.hid (fun m (h : m ≤ 4294967295) w3 => octGroups_nat m (by omega) w3)
      have HR := Lib.hid hR
      have HFL := Lib.hid (flat_snoc ((40 * x + y) :: r))
      have HGL := Lib.hid (flat_len ((40 * x + y) :: r))
      have HNL := Lib.hid hnl
      clear hR HH HC hlen hL z1 z2 l1 l2 hx2 hy2 hnl
      generalize hns : (40 * x + y) :: r = ns at *
      have HNQ := Lib.hid hns
      clear hns
      go_wp2
      go_loopg [33] (r.length + 1) (fun g v wr => EncRel ns w2 w2.heap.size g v wr)
      case atStart => exact ⟨0, by rw [HNL.out]; omega, rfl, by rw [List.take_zero]; exact HBF.out, HBA.out⟩
      case round =>
        clear HBF HBA
        obtain ⟨i, hig, rfl, hB, hb⟩ := hrel
        rw [HNL.out] at hig
        cases gk with
        | zero =>
          obtain rfl : i = r.length + 1 := by omega
          have hall : ns.take (r.length + 1) = ns := List.take_of_length_le (by rw [HNL.out]; exact Nat.le_refl _)
          rw [hall] at hB
          clear hig hall
          go_wp2_with fail
          refine (bstr _ _ _ _ hB hb.size).mono ?_
          rintro e w3 ⟨rfl, b3⟩
          have hb3 := hB2.trans ((hb.trans b3).mono hB2.size)
          clear b3
          go_wp2
          go_ret2
          rw [HNQ.out]
          exact ⟨rfl, hb3⟩
        | succ g =>
          have hin : i < r.length + 1 := by omega
          have hin2 : (i : Int) < (r.length : Int) + 1 := by omega
          have hx : ns.getD i 0 ≤ 4294967295 := HNS.out _ (by simp [List.getD, List.getElem?_eq_getElem (show i < ns.length by rw [HNL.out]; exact hin)])
          rcases HR.out.below hb with h0 | ⟨rb, off, hra, hrb, hrc⟩
          · rw [HNL.out] at h0; omega
          · injection hra with hra
            injection hra with h1 h2 h3
            subst h1 h2
            have hcell := hrc i (by rw [HNL.out]; exact hin)
            unfold fz at hcell
            have HFS := Lib.hid (HFL.out i (by rw [HNL.out]; exact hin))
            have hgl := HGL.out i
            rw [HNL.out] at hgl
            have hgl2 := P1.grp_length (ns.getD i 0)
            clear hrc
            generalize hX : ns.getD i 0 = X at *
            clear hX
            generalize (ns.take i).flatMap P1.grp = PT at *
            go_wp2_with fail
            refine (HG.out X hx _).mono ?_
            rintro e w3 ⟨rfl, d3⟩
            have B3 := bld_below hB d3
            have b3 := hb.trans (d3.mono hb.size)
            clear d3 hB hb
            go_wp2_with fail
            refine (wstr _ _ PT (P1.grp X) w3 B3 (by omega) b3.size).mono ?_
            rintro e w4 ⟨rfl, B4, k4, -⟩
            have b4 := b3.trans k4
            clear b3 k4 B3
            go_wp2
            go_roundg g
            case measure => omega
            case rel => exact ⟨i + 1, by rw [HNL.out]; omega, by simp, by rw [HFS.out]; exact B4, b4⟩
end Go.Proofs.YtgjmnlgjdgjdbaaDoor
/- A list of pairs (a number, a text) that a call made itself: its cells, and what keeps them. Of no program. -/
namespace Go.Proofs.YtgjmnlgjdgjdbaaDoor
open Go.RowKit
namespace K

def pairs (ps : List (Nat × List UInt8)) : List Value := ps.flatMap fun p => [Value.int .i64 (p.1 : Nat), Value.string (bs p.2)]
theorem pairs_app (a b : List (Nat × List UInt8)) : pairs (a ++ b) = pairs a ++ pairs b := by simp [pairs]
theorem pairs_len (ps : List (Nat × List UInt8)) : (pairs ps).length = ps.length * 2 := by
  induction ps with
  | nil => rfl
  | cons p ps ih =>
    show ([Value.int .i64 (p.1 : Nat), Value.string (bs p.2)] ++ pairs ps).length = _
    rw [List.length_append, ih, List.length_cons]; simp; omega
theorem pairs_get : ∀ (ps : List (Nat × List UInt8)) (i : Nat), i < ps.length → (pairs ps)[i * 2]? = some (.int .i64 ((ps.getD i (0, [])).1 : Nat)) ∧ (pairs ps)[i * 2 + 1]? = some (.string (bs (ps.getD i (0, [])).2))
  | [], i, h => by simp at h
  | p :: ps, 0, _ => by constructor <;> rfl
  | p :: ps, i + 1, h => by
    have := pairs_get ps i (by simpa using h)
    have e : pairs (p :: ps) = Value.int .i64 (p.1 : Nat) :: Value.string (bs p.2) :: pairs ps := rfl
    rw [e, show (i + 1) * 2 = i * 2 + 1 + 1 by omega]
    simpa [List.getD] using this
/-- A slice that the call made itself, behind block B, of these pairs; T is the type of its elements. -/
def OwnP (w : World) (B : Nat) (T : TypeId) (v : Value) (ps : List (Nat × List UInt8)) : Prop := w.ownsRow B T 2 v ps.length (pairs ps)
theorem OwnP.nil (w : World) (B : Nat) (T : TypeId) : OwnP w B T (.slice none 0 0) [] := World.ownsRow_nil w B T 2
theorem OwnP.below {w w' : World} {B : Nat} {T : TypeId} {v : Value} {ps : List (Nat × List UInt8)} (h : OwnP w B T v ps) (k : Below w.heap.size w w') : OwnP w' B T v ps := by
  refine ⟨h.1, ?_⟩
  rcases h.2 with hn | ⟨g, cap, cur, h1, h2, h3, h4⟩
  · exact .inl hn
  · exact .inr ⟨g, cap, cur, h1, h2, (k.block g (lt_of_block h3)).trans h3, h4⟩
theorem OwnP.mono {w : World} {B B' : Nat} {T : TypeId} {v : Value} {ps : List (Nat × List UInt8)} (h : OwnP w B T v ps) (hb : B' ≤ B) : OwnP w B' T v ps := World.ownsRow.mono h hb
theorem OwnP.form {w : World} {B : Nat} {T : TypeId} {v : Value} {ps : List (Nat × List UInt8)} (h : OwnP w B T v ps) :
    ∃ ao cap, v = .slice ao ps.length cap ∧ (ps.length = 0 ∨ ∃ g, ao = some ⟨g, 0, none⟩ ∧ B ≤ g ∧ g < w.heap.size ∧
      ∀ i, i < ps.length → w.cell? ⟨g, i * 2, none⟩ = some (.int .i64 ((ps.getD i (0, [])).1 : Nat)) ∧ w.cell? ⟨g, i * 2 + 1, none⟩ = some (.string (bs (ps.getD i (0, [])).2))) := by
  rcases h.2 with ⟨hv, h0⟩ | ⟨g, cap, cur, hv, hB, hh, hle, hm, hs, ht⟩
  · exact ⟨none, 0, by rw [hv, h0], .inl h0⟩
  · refine ⟨some ⟨g, 0, none⟩, cap, hv, .inr ⟨g, rfl, hB, lt_of_block hh, fun i hi => ?_⟩⟩
    obtain ⟨p1, p2⟩ := pairs_get ps i hi
    rw [cellRow hh, cellRow hh, ← Array.getElem?_toList, ← Array.getElem?_toList, ← p1, ← p2, ← ht]
    rw [List.getElem?_take_of_lt (by omega), List.getElem?_take_of_lt (by omega)]
    exact ⟨rfl, rfl⟩
theorem OwnP.put {w : World} {B : Nat} {T : TypeId} {v : Value} {ps : List (Nat × List UInt8)} {t : Nat} {b : List UInt8} (h : w.ownsRow B T 2 v (ps.length + 1) (pairs ps ++ [.int .i64 (t : Nat), .string (bs b)])) : OwnP w B T v (ps ++ [(t, b)]) := by
  unfold OwnP
  rw [List.length_append, pairs_app]
  exact h
end K
end Go.Proofs.YtgjmnlgjdgjdbaaDoor
/- ber's head, Wrap, Parts, walked. -/
namespace Go.Proofs.YtgjmnlgjdgjdbaaDoor
open Go.ChangeShapes Go.WideShapes Go.ChangeAt Go.RowKit K P1 B5
set_option linter.unusedVariables false

theorem run_conv_two {P : Program} (src e dst : TypeId) (hs : P.underlying src = some (.slice e)) (he : P.underlying e = some (.int .u8)) (hd : P.underlying dst = some .string) :
    ∀ (w : World) (x y : Int), (convert src dst (.slice (some ⟨w.heap.size, 0, none⟩) 2 2)).run P (w.alloc (.cells #[.int .u8 x, .int .u8 y] e)) = .ok (.string (bs [b8 x.toNat, b8 y.toNat])) (w.alloc (.cells #[.int .u8 x, .int .u8 y] e)) := by
  intro w x y
  rw [run_convert_bytes_arg (P := P) (w.alloc (.cells #[.int .u8 x, .int .u8 y] e)) src e hs he w.heap.size 0 2 2 [x, y] rfl _ dst hd]
  · rfl
  · intro i hi
    obtain rfl | rfl : i = 0 ∨ i = 1 := by omega
    · rw [cellRow (rowNew w _)]; rfl
    · rw [cellRow (rowNew w _)]; rfl
theorem wide_at {n k : Nat} (hn : n < 4294967296) (h1 : 1 ≤ k) (h4 : k ≤ kb n) : (k < kb n → wideS n k = [] ∧ wideC n k = 1) ∧ (k = kb n → wideS n k = pad k n ∧ wideC n k = 0) := by
  have hkb := kb_pos n
  constructor
  · intro h
    refine wide_big n k fun hlt => ?_
    have := kb_least n k hlt h1 (by omega)
    omega
  · intro h
    refine wide_yes n k h1 (by omega) ?_
    rw [h]; exact kb_fits n hn
def HdRel (n : Nat) (w : World) (g : Nat) (v5 v6 v7 : Value) (wr : World) : Prop :=
  ∃ k, k + g = kb n ∧ 1 ≤ k ∧ v5 = .int .i64 (k : Nat) ∧ v6 = .string (bs (wideS n k)) ∧ v7 = .int .i64 (wideC n k) ∧ Below w.heap.size w wr
set_option maxRecDepth 100000 in
theorem head_walk (t n : Nat) (ht : t < 256) (hn : n < 4294967296) (w : World) :
    Calls Tryd.prog 46 #[.int .i64 t, .int .i64 n] w fun e w' => e = .returned (.string (bs (b8 t :: short n))) ∧ Below w.heap.size w w' := by
  have hcv := run_conv_two (P := Tryd.prog) 49 5 9 Tryd.underlying49 Tryd.underlying5 Tryd.underlying9
  have et : IntKind.u8.wrap (t : Int) = (t : Int) := IntWalk.u8_in _ (by omega)
  by_cases h : n < 128
  · have e : b8 t :: short n = [b8 t, b8 n] := by unfold short; rw [if_pos h]
    rw [e]
    have en : IntKind.u8.wrap (n : Int) = (n : Int) := IntWalk.u8_in _ (by omega)
    have h' : (n : Int) < 128 := by omega
    clear hn e
    go_enter Tryd.func46, Tryd.ntmps46
    go_wp2
    go_ret
    exact ⟨by simp, (Below.refl _ _).alloc (Nat.le_refl _) _⟩
  · have e : b8 t :: short n = b8 t :: b8 (128 + kb n) :: pad (kb n) n := by unfold short; rw [if_neg h]
    have HE := Lib.hid e
    have hkb := kb_pos n
    have HW := Lib.hid (fun k h1 h4 => @wide_at n k hn h1 h4)
    have HO := Lib.hid (fun k w1 => octWide_walk (n : Int) k (by omega) (by omega) w1)
    have hpl := pad_length (kb n) n
    have hz0 : (128 : Int) ≤ (n : Nat) := by omega
    have hn2 : ((n : Nat) : Int) < 4294967296 := by omega
    clear e h hn
    generalize hN : ((n : Nat) : Int) = N at *
    go_enter Tryd.func46, Tryd.ntmps46
    go_wp2_with fail
    refine (HO.out 1 w).mono ?_
    rintro e w1 ⟨rfl, b1⟩
    go_wp2
    go_loopg [5, 6, 7] (kb n - 1) (fun g v5 v6 v7 wr => HdRel n w g v5 v6 v7 wr)
    case atStart => exact ⟨1, by omega, by omega, rfl, by rw [← hN]; rfl, by rw [← hN]; rfl, b1⟩
    case round =>
      obtain ⟨k, hkg, hk1, rfl, rfl, rfl, hbr⟩ := hrel
      rw [hN]
      obtain ⟨s1, s2⟩ := HW.out k hk1 (by omega)
      cases gk with
      | zero =>
        obtain rfl : k = kb n := by omega
        rw [(s2 rfl).1, (s2 rfl).2]
        clear s1 s2
        have e1 : IntKind.i64.wrap (128 + ((kb n : Nat) : Int)) = 128 + ((kb n : Nat) : Int) := IntWalk.i64_in _ (by omega)
        have e2 : IntKind.u8.wrap (128 + ((kb n : Nat) : Int)) = 128 + ((kb n : Nat) : Int) := IntWalk.u8_in _ (by omega)
        have e3 : (128 + ((kb n : Nat) : Int)).toNat = 128 + kb n := by omega
        have hcat : (9223372036854775807 < 2 + (pad (kb n) n).length) = False := eq_false (by omega)
        generalize pad (kb n) n = PD at *
        clear hkg hk1
        go_wp2
        go_ret
        exact ⟨by rw [HE.out]; simp, hbr.alloc hbr.size _⟩
      | succ g =>
        have hlt : k < kb n := by omega
        rw [(s1 hlt).1, (s1 hlt).2]
        clear s1 s2
        have hk1' := Lib.hid (show ((k : Nat) : Int) + 1 = ((k + 1 : Nat) : Int) by omega)
        go_wp2_with fail
        refine (HO.out _ wr).mono ?_
        rintro e w2 ⟨rfl, b2⟩
        go_wp2
        go_roundg g
        case measure => omega
        case rel => exact ⟨k + 1, by omega, by omega, by simp, by rw [hN, hk1'.out], by rw [hN, hk1'.out], hbr.trans (b2.mono hbr.size)⟩
set_option maxRecDepth 100000 in
theorem wrap_walk (t : Int) (b : List UInt8) (hb : b.length ≤ 140737488351232) (w : World) :
    Calls Tryd.prog 34 #[.int .i64 t, .string (bs b)] w fun e w' => e = .returned (.tuple #[.string (bs (wrT t b)), .int .i64 (wrE t b : Nat)]) ∧ Below w.heap.size w w' := by
  have hI := istag_walk t w
  cases hi : isTi t
  · have e1 : wrT t b = [] ∧ wrE t b = 1 := by unfold wrT wrE; rw [hi]; exact ⟨rfl, rfl⟩
    rw [e1.1, e1.2]
    rw [hi] at hI
    have HI := Lib.hid hI
    clear hI hi e1
    go_enter Tryd.func34, Tryd.ntmps34
    go_wp2_with fail
    refine HI.out.mono ?_
    rintro e w1 ⟨rfl, rfl⟩
    go_wp2
    go_ret2
    exact ⟨rfl, Below.refl _ _⟩
  · rw [hi] at hI
    have HI := Lib.hid hI
    obtain ⟨k, rfl, hk, _⟩ := isTi_nat hi
    by_cases hl : 16777216 < b.length
    · have e1 : wrT (k : Int) b = [] ∧ wrE (k : Int) b = 2 := by unfold wrT wrE; rw [hi, if_pos rfl, if_pos hl, if_pos rfl, if_pos hl]; exact ⟨rfl, rfl⟩
      rw [e1.1, e1.2]
      have hl' : (16777216 : Int) < ((b.length : Nat) : Int) := by omega
      clear hI hi e1 hl
      go_enter Tryd.func34, Tryd.ntmps34
      go_wp2_with fail
      refine HI.out.mono ?_
      rintro e w1 ⟨rfl, rfl⟩
      go_wp2
      go_ret2
      exact ⟨rfl, Below.refl _ _⟩
    · have e1 : wrT (k : Int) b = (b8 k :: short b.length) ++ b ∧ wrE (k : Int) b = 0 := by unfold wrT wrE; rw [hi, if_pos rfl, if_neg hl, if_pos rfl, if_neg hl]; exact ⟨by simp [put], rfl⟩
      rw [e1.1, e1.2]
      have HP := Lib.hid (fun w1 => head_walk k b.length hk (by omega) w1)
      have hl' : ((b.length : Nat) : Int) ≤ 16777216 := by omega
      have hsl : (b8 k :: short b.length).length ≤ 6 := by
        rw [List.length_cons, short_len]; have := kb_pos b.length
        by_cases h : b.length < 128
        · rw [if_pos h]; omega
        · rw [if_neg h]; omega
      clear hI hi e1 hl
      generalize b8 k :: short b.length = X at *
      have hcat : (9223372036854775807 < X.length + b.length) = False := eq_false (by omega)
      go_enter Tryd.func34, Tryd.ntmps34
      go_wp2_with fail
      refine HI.out.mono ?_
      rintro e w1 ⟨rfl, rfl⟩
      go_wp2_with fail
      refine (HP.out _).mono ?_
      rintro e x1 ⟨rfl, k1⟩
      go_wp2
      go_ret2
      exact ⟨rfl, k1⟩
end Go.Proofs.YtgjmnlgjdgjdbaaDoor
