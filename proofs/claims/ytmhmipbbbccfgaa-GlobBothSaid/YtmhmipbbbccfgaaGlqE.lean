/- The program's nextPiece, walked. -/
import Derived.Test.YtmhmipbbbccfgaaGlqD
import Derived.Test.YtmhmipbbbccfgaaGlbG
namespace Go.Proofs.Ytmhmipbbbccfgaa
open Go.ChangeShapes Go.WideShapes Go.ChangeAt Go.RowKit K G13
set_option linter.unusedVariables false

/-- A piece's words, and its cells. -/
def hq (p : Pc) (i : Nat) : Bool := p.hit (UInt8.ofNat i)
def pArr (p : Pc) : Array Value := wArr (hq p) ++ #[.bool p.isAny]
/-- The piece that a text begins with. -/
def nx13 (c : UInt8) (t : List UInt8) : Option (Pc × List UInt8) :=
  if c = 42 then some (.any, t) else if c = 63 then some (.set fun _ => true, t) else if c = 91 then (st13 t).map fun y => (.set y.1, y.2) else (nb13 (c :: t)).map fun y => (.one y.1, y.2)
theorem pieces_nx (c : UInt8) (t : List UInt8) : pieces (c :: t) = match nx13 c t with | none => none | some (x, r) => (pieces r).map (x :: ·) := by
  unfold nx13
  by_cases c1 : c = 42
  · subst c1; rw [if_pos rfl]; exact pieces_any t
  rw [if_neg c1]
  by_cases c2 : c = 63
  · subst c2; rw [if_pos rfl]; exact pieces_ask t
  rw [if_neg c2]
  by_cases c3 : c = 91
  · subst c3; rw [if_pos rfl]
    cases h : st13 t with
    | none => exact pieces_noset t h
    | some y => exact pieces_set t y.1 y.2 h
  rw [if_neg c3]
  by_cases c4 : c = 92
  · subst c4
    cases t with
    | nil => exact pieces_bare
    | cons d q => exact pieces_esc d q
  · rw [pieces_own c t c1 c2 c3 c4]
    simp only [nb13, if_neg c4]
    rfl
theorem nx_len {c : UInt8} {t : List UInt8} {x : Pc} {r : List UInt8} (h : nx13 c t = some (x, r)) : r.length ≤ t.length := by
  unfold nx13 at h
  split at h
  · injection h with h; injection h with _ h; subst h; omega
  · split at h
    · injection h with h; injection h with _ h; subst h; omega
    · split at h
      · obtain ⟨y, hy, he⟩ := Option.map_eq_some_iff.1 h
        injection he with _ he; subst he
        have := st_len (f := y.1) (r := y.2) hy; omega
      · obtain ⟨y, hy, he⟩ := Option.map_eq_some_iff.1 h
        injection he with _ he; subst he
        have := nb_len (a := y.1) (r := y.2) hy
        simp only [List.length_cons] at this; omega
theorem one_or (b : UInt8) : wArr (orR (fun _ => false) b.toNat (b.toNat + 1)) = wArr (hq (.one b)) := by
  refine wArr_congr fun i hi => ?_
  unfold orR hq
  show (false || _) = (b == UInt8.ofNat i)
  rw [Bool.false_or, Bool.eq_iff_iff, Bool.and_eq_true, decide_eq_true_eq, decide_eq_true_eq, beq_iff_eq]
  constructor
  · intro h
    have : i = b.toNat := by omega
    subst this; simp
  · intro h
    have : b.toNat = i := by rw [h, UInt8.toNat_ofNat']; omega
    omega
theorem pArr_lit (f : Nat → Bool) (x : Bool) : wArr f ++ #[.bool x] = #[.int .u64 ((wd f 0 : Nat) : Int), .int .u64 ((wd f 1 : Nat) : Int), .int .u64 ((wd f 2 : Nat) : Int), .int .u64 ((wd f 3 : Nat) : Int), .bool x] := rfl
theorem wArr_lit (f : Nat → Bool) : wArr f = #[.int .u64 ((wd f 0 : Nat) : Int), .int .u64 ((wd f 1 : Nat) : Int), .int .u64 ((wd f 2 : Nat) : Int), .int .u64 ((wd f 3 : Nat) : Int)] := rfl
theorem pArr_none (x : Bool) : wArr (fun _ => false) ++ #[.bool x] = #[.int .u64 0, .int .u64 0, .int .u64 0, .int .u64 0, .bool x] := by rw [wArr_none]; rfl
/-- What nextPiece answers. -/
def NpPost (o : Option (Pc × List UInt8)) (w : World) (e : Ending) (w' : World) : Prop :=
  Below w.heap.size w w' ∧ match o with
  | none => ∃ (f : Nat → Bool) (z : List UInt8), e = .returned (.tuple #[.agg (wArr f ++ #[.bool false]), .string (bs z), .bool false])
  | some (p, r) => e = .returned (.tuple #[.agg (pArr p), .string (bs r), .bool true])
theorem below_dw {B : Nat} {a b : World} (h : Below B a b) : Below B a b.drew := ⟨h.os, h.tape, h.output, h.size, h.block⟩
theorem row5 {w : World} {b : Nat} {T : TypeId} {a0 a1 a2 a3 a4 : Value} (h : w.heap[b]? = some (.cells #[a0, a1, a2, a3, a4] T (0, 0))) (v0 v1 v2 v3 v4 : Value) :
    (((((w.setCell ⟨b, 0, none⟩ v0).setCell ⟨b, 1, none⟩ v1).setCell ⟨b, 2, none⟩ v2).setCell ⟨b, 3, none⟩ v3).setCell ⟨b, 4, none⟩ v4).heap[b]? = some (.cells #[v0, v1, v2, v3, v4] T (0, 0)) := by
  have := rowSet (rowSet (rowSet (rowSet (rowSet h 0 v0) 1 v1) 2 v2) 3 v3) 4 v4
  simpa using this
theorem row4 {w : World} {b : Nat} {T : TypeId} {a0 a1 a2 a3 a4 : Value} (h : w.heap[b]? = some (.cells #[a0, a1, a2, a3, a4] T (0, 0))) (v0 v1 v2 v3 : Value) :
    ((((w.setCell ⟨b, 0, none⟩ v0).setCell ⟨b, 1, none⟩ v1).setCell ⟨b, 2, none⟩ v2).setCell ⟨b, 3, none⟩ v3).heap[b]? = some (.cells #[v0, v1, v2, v3, a4] T (0, 0)) := by
  have := rowSet (rowSet (rowSet (rowSet h 0 v0) 1 v1) 2 v2) 3 v3
  simpa using this
theorem below4 {w w1 : World} {b : Nat} (h : Below w.heap.size w w1) (hb : w.heap.size ≤ b) (v0 v1 v2 v3 : Value) :
    Below w.heap.size w ((((w1.setCell ⟨b, 0, none⟩ v0).setCell ⟨b, 1, none⟩ v1).setCell ⟨b, 2, none⟩ v2).setCell ⟨b, 3, none⟩ v3) :=
  (((h.setCell hb v0).setCell hb v1).setCell hb v2).setCell hb v3
/-- A row's cells, one by one. -/
theorem cells5 {w : World} {b : Nat} {T : TypeId} {a0 a1 a2 a3 a4 : Value} (h : w.heap[b]? = some (.cells #[a0, a1, a2, a3, a4] T (0, 0))) :
    w.cell? ⟨b, 0, none⟩ = some a0 ∧ w.cell? ⟨b, 1, none⟩ = some a1 ∧ w.cell? ⟨b, 2, none⟩ = some a2 ∧ w.cell? ⟨b, 3, none⟩ = some a3 ∧ w.cell? ⟨b, 4, none⟩ = some a4 ∧ ∀ k, w.frozen? ⟨b, k, none⟩ = false :=
  ⟨cellRow h 0, cellRow h 1, cellRow h 2, cellRow h 3, cellRow h 4, fun k => freeRow h k⟩
theorem sz5 : (Try.prog.info? 52).map (·.size) = some 5 := by kernel_rfl
set_option maxRecDepth 100000 in
set_option maxHeartbeats 2000000 in
theorem nextpiece_walk (c : UInt8) (t : List UInt8) (hs : (c :: t).length ≤ 140737488355327) (w : World) :
    Calls Try.prog 21 #[.string (bs (c :: t))] w (NpPost (nx13 c t) w) := by
  have hby : byt (c :: t) 0 = c.toNat := rfl
  have hpos : 0 < (c :: t).length := by simp
  have htl : (c :: t).tail = t := rfl
  have h1l : (1 : Int) ≤ (((c :: t).length : Nat) : Int) := by simp only [List.length_cons]; omega
  have HTL := Lib.hid htl
  have hts : t.length ≤ 140737488355327 := by simp only [List.length_cons] at hs; omega
  clear htl
  have hcn : ∀ k : Nat, k < 256 → c ≠ UInt8.ofNat k → (((byt (c :: t) 0 : Nat) : Int) == (k : Int)) = false := fun k hk hne => by
    rw [beq_eq_false_iff_ne]
    intro e
    apply hne
    apply UInt8.toNat_inj.1
    rw [UInt8.toNat_ofNat']
    rw [hby] at e
    omega
  have HB0 := Lib.hid ((Below.refl w.heap.size w).alloc (Nat.le_refl _) (.cells #[.int .u64 0, .int .u64 0, .int .u64 0, .int .u64 0, .bool false] 52))
  by_cases c1 : c = 42
  · have hb0 : byt (c :: t) 0 = 42 := by rw [hby, c1]; rfl
    have HR := Lib.hid (show nx13 c t = some (.any, t) by unfold nx13; rw [if_pos c1])
    have HP := Lib.hid (show pArr .any = #[.int .u64 0, .int .u64 0, .int .u64 0, .int .u64 0, .bool true] from pArr_none true)
    clear c1 hby hcn
    generalize c :: t = s at *
    go_enter Try.func21, Try.ntmps21
    go_wp2_with fail
    go_region
    all_goals
      go_wp2_with fail
      refine bodyPost_ret (gres_row3 rfl _ _ w.heap.size _ _ (0, 0) _ rfl (by exact rowNew w _) Try.underlying52 rfl (by kernel_rfl)) rfl ?_
      refine ⟨below_dw ((Below.refl _ _).alloc (Nat.le_refl _) _), ?_⟩
      rw [HR.out]
      show _ = Ending.returned (.tuple #[.agg (pArr .any), .string (bs t), .bool true])
      rw [HP.out, ← HTL.out]
      rfl
  by_cases c2 : c = 63
  · have hb0 : byt (c :: t) 0 = 63 := by rw [hby, c2]; rfl
    have HR := Lib.hid (show nx13 c t = some (.set fun _ => true, t) by unfold nx13; rw [if_neg c1, if_pos c2])
    have ho := fun wx => others_walk (fun _ => false) wx
    rw [wArr_none, wArr_lit] at ho
    have HP := Lib.hid (show pArr (.set fun _ => true) = #[.int .u64 ((wd (fun i => !false) 0 : Nat) : Int), .int .u64 ((wd (fun i => !false) 1 : Nat) : Int), .int .u64 ((wd (fun i => !false) 2 : Nat) : Int), .int .u64 ((wd (fun i => !false) 3 : Nat) : Int), .bool false] from rfl)
    have HO := Lib.hid ho
    clear c1 c2 hby hcn ho
    generalize wd (fun i => !false) 0 = n0 at *
    generalize wd (fun i => !false) 1 = n1 at *
    generalize wd (fun i => !false) 2 = n2 at *
    generalize wd (fun i => !false) 3 = n3 at *
    generalize c :: t = s at *
    go_enter Try.func21, Try.ntmps21
    go_wp2_with fail
    go_region_with (go_at_call 36; refine (HO.out _).mono ?_; rintro e w1 ⟨rfl, b1⟩; have hr1 : w1.heap[w.heap.size]? = some (.cells #[.int .u64 0, .int .u64 0, .int .u64 0, .int .u64 0, .bool false] 52 (0, 0)) := (b1.block _ (by show w.heap.size < (w.alloc _).heap.size; rw [World.size_alloc]; exact Nat.lt_succ_self _)).trans (rowNew w _); have z0 := cellRow hr1 0; have y0 := freeRow hr1 0; have z1 := cellRow hr1 1; have y1 := freeRow hr1 1; have z2 := cellRow hr1 2; have y2 := freeRow hr1 2; have z3 := cellRow hr1 3; have y3 := freeRow hr1 3; have z4 := cellRow hr1 4; have y4 := freeRow hr1 4; simp only [List.getElem?_toArray, List.getElem?_cons_zero, List.getElem?_cons_succ] at z0 z1 z2 z3 z4)
    all_goals
      have R5 := Lib.hid (row5 hr1 (.int .u64 (n0 : Nat)) (.int .u64 (n1 : Nat)) (.int .u64 (n2 : Nat)) (.int .u64 (n3 : Nat)) (.bool false))
      have B5 := Lib.hid ((below4 ((below_dw HB0.out).trans (b1.mono (by show w.heap.size ≤ (w.alloc _).heap.size; rw [World.size_alloc]; omega))) (Nat.le_refl _) (.int .u64 (n0 : Nat)) (.int .u64 (n1 : Nat)) (.int .u64 (n2 : Nat)) (.int .u64 (n3 : Nat))).setCell (p := ⟨w.heap.size, 4, none⟩) (Nat.le_refl _) (.bool false))
      clear z0 z1 z2 z3 z4 y0 y1 y2 y3 y4 b1 hr1
      go_wp2_with fail
      refine bodyPost_ret (gres_row3 rfl _ _ w.heap.size _ _ (0, 0) _ rfl (by exact R5.out) Try.underlying52 rfl (by kernel_rfl)) rfl ?_
      refine ⟨by first | exact B5.out | exact below_dw B5.out, ?_⟩
      rw [HR.out]
      show _ = Ending.returned (.tuple #[.agg (pArr (.set fun _ => true)), .string (bs t), .bool true])
      rw [HP.out, ← HTL.out]
      rfl
  by_cases c3 : c = 91
  · have hb0 : byt (c :: t) 0 = 91 := by rw [hby, c3]; rfl
    have hg := fun wx => ranges_walk t hts wx
    cases hst : st13 t with
    | none =>
      have HR := Lib.hid (show nx13 c t = none by unfold nx13; rw [if_neg c1, if_neg c2, if_pos c3, hst]; rfl)
      rw [hst] at hg
      have HG := Lib.hid hg
      clear c1 c2 c3 hby hcn hg hst
      generalize c :: t = s at *
      go_enter Try.func21, Try.ntmps21
      go_wp2_with fail
      rw [HTL.out]
      refine (HG.out _).mono ?_
      rintro e w1 ⟨b1, rfl⟩
      rw [wArr_none]
      have hr0 := (b1.block _ (by rw [World.size_alloc]; exact Nat.lt_succ_self _)).trans (rowNew w (.cells #[.int .u64 0, .int .u64 0, .int .u64 0, .int .u64 0, .bool false] 52))
      obtain ⟨z0, z1, z2, z3, z4, y⟩ := cells5 hr0
      have HB1 := Lib.hid (HB0.out.trans (b1.mono (by rw [World.size_alloc]; omega)))
      have HR4 := Lib.hid (row4 hr0 (.int .u64 0) (.int .u64 0) (.int .u64 0) (.int .u64 0))
      have HB4 := Lib.hid (below4 HB1.out (Nat.le_refl _) (.int .u64 0) (.int .u64 0) (.int .u64 0) (.int .u64 0))
      clear hr0 b1
      go_wp2_with fail
      refine bodyPost_ret (gres_row3 rfl _ _ w.heap.size _ _ (0, 0) _ rfl (by exact row5 HR4.out (.int .u64 0) (.int .u64 0) (.int .u64 0) (.int .u64 0) (.bool false)) Try.underlying52 rfl (by kernel_rfl)) rfl ?_
      refine ⟨(below4 HB4.out (Nat.le_refl _) (.int .u64 0) (.int .u64 0) (.int .u64 0) (.int .u64 0)).setCell (p := ⟨w.heap.size, 4, none⟩) (Nat.le_refl _) (.bool false), ?_⟩
      rw [HR.out]
      refine ⟨fun _ => false, [], ?_⟩
      rw [pArr_none]
      rfl
    | some y =>
      obtain ⟨f, r⟩ := y
      have HR := Lib.hid (show nx13 c t = some (.set f, r) by unfold nx13; rw [if_neg c1, if_neg c2, if_pos c3, hst]; rfl)
      rw [hst] at hg
      have HG := Lib.hid hg
      have HP := Lib.hid (show pArr (.set f) = #[.int .u64 ((wd (fun i => f (UInt8.ofNat i)) 0 : Nat) : Int), .int .u64 ((wd (fun i => f (UInt8.ofNat i)) 1 : Nat) : Int), .int .u64 ((wd (fun i => f (UInt8.ofNat i)) 2 : Nat) : Int), .int .u64 ((wd (fun i => f (UInt8.ofNat i)) 3 : Nat) : Int), .bool false] from rfl)
      clear c1 c2 c3 hby hcn hg hst
      generalize c :: t = s at *
      go_enter Try.func21, Try.ntmps21
      go_wp2_with fail
      rw [HTL.out]
      refine (HG.out _).mono ?_
      rintro e w1 ⟨b1, rfl⟩
      rw [wArr_lit]
      generalize wd (fun i => f (UInt8.ofNat i)) 0 = n0 at *
      generalize wd (fun i => f (UInt8.ofNat i)) 1 = n1 at *
      generalize wd (fun i => f (UInt8.ofNat i)) 2 = n2 at *
      generalize wd (fun i => f (UInt8.ofNat i)) 3 = n3 at *
      have hr0 := (b1.block _ (by rw [World.size_alloc]; exact Nat.lt_succ_self _)).trans (rowNew w (.cells #[.int .u64 0, .int .u64 0, .int .u64 0, .int .u64 0, .bool false] 52))
      obtain ⟨z0, z1, z2, z3, z4, y⟩ := cells5 hr0
      have HB1 := Lib.hid (HB0.out.trans (b1.mono (by rw [World.size_alloc]; omega)))
      have HR4 := Lib.hid (row4 hr0 (.int .u64 (n0 : Nat)) (.int .u64 (n1 : Nat)) (.int .u64 (n2 : Nat)) (.int .u64 (n3 : Nat)))
      have HB4 := Lib.hid (below4 HB1.out (Nat.le_refl _) (.int .u64 (n0 : Nat)) (.int .u64 (n1 : Nat)) (.int .u64 (n2 : Nat)) (.int .u64 (n3 : Nat)))
      clear hr0 b1
      go_wp2_with fail
      refine bodyPost_ret (gres_row3 rfl _ _ w.heap.size _ _ (0, 0) _ rfl (by exact row5 HR4.out (.int .u64 (n0 : Nat)) (.int .u64 (n1 : Nat)) (.int .u64 (n2 : Nat)) (.int .u64 (n3 : Nat)) (.bool false)) Try.underlying52 rfl (by kernel_rfl)) rfl ?_
      refine ⟨(below4 HB4.out (Nat.le_refl _) (.int .u64 (n0 : Nat)) (.int .u64 (n1 : Nat)) (.int .u64 (n2 : Nat)) (.int .u64 (n3 : Nat))).setCell (p := ⟨w.heap.size, 4, none⟩) (Nat.le_refl _) (.bool false), ?_⟩
      rw [HR.out]
      show _ = Ending.returned (.tuple #[.agg (pArr (.set f)), .string (bs r), .bool true])
      rw [HP.out]
      rfl
  have q1 := hcn 42 (by decide) c1
  have q2 := hcn 63 (by decide) c2
  have q3 := hcn 91 (by decide) c3
  have hnx : nx13 c t = (nb13 (c :: t)).map fun y => (.one y.1, y.2) := by unfold nx13; rw [if_neg c1, if_neg c2, if_neg c3]
  have hnb := fun wx => nextbyte_walk (c :: t) hs wx
  have hrow : ∀ n wx, wx = (w.alloc (.cells #[.int .u64 0, .int .u64 0, .int .u64 0, .int .u64 0, .bool false] 52)).drewN n → SetB wx w.heap.size 52 (fun _ => false) #[.bool false] := by
    rintro n wx rfl
    unfold SetB
    rw [pArr_none]
    exact rowNew w _
  have HROW := Lib.hid hrow
  have HADD := Lib.hid (fun x hx wx h => add_walk (fun _ => false) w.heap.size 52 #[.bool false] x x hx (Nat.le_refl x) wx h)
  cases hnbv : nb13 (c :: t) with
  | none =>
    have HR := Lib.hid (show nx13 c t = none by rw [hnx, hnbv]; rfl)
    rw [hnbv] at hnb
    have HNB := Lib.hid (show ∀ wx, Calls Try.prog 29 #[.string (bs (c :: t))] wx fun e w' => e = .returned (.tuple #[.int .u8 ((0 : Nat) : Int), .string (bs []), .bool false]) ∧ ∃ n, w' = wx.drewN n from hnb)
    have HA := Lib.hid (fun wx h => HADD.out 0 (by decide) wx h)
    clear c1 c2 c3 hby hcn hnb hnx hrow hnbv HADD
    generalize c :: t = s at *
    go_enter Try.func21, Try.ntmps21
    go_wp2_with fail
    refine (HNB.out _).mono ?_
    rintro e w1 ⟨rfl, n, rfl⟩
    go_wp2_with fail
    refine (HA.out _ (HROW.out n _ rfl)).mono ?_
    rintro e w2 ⟨rfl, k2, hS2⟩
    have hW := hS2
    unfold SetB at hW
    rw [pArr_lit] at hW
    have HB4 := Lib.hid ((Below_drewN2 HB0.out n).trans (k2.below (B := w.heap.size) (by show _ ≤ (w.alloc _).heap.size; rw [World.size_alloc]; omega) (by simp)))
    have HWF := Lib.hid (pArr_lit (orR (fun _ => false) 0 (0 + 1)) false)
    clear k2 hS2
    generalize wd (orR (fun _ => false) 0 (0 + 1)) 0 = n0 at *
    generalize wd (orR (fun _ => false) 0 (0 + 1)) 1 = n1 at *
    generalize wd (orR (fun _ => false) 0 (0 + 1)) 2 = n2 at *
    generalize wd (orR (fun _ => false) 0 (0 + 1)) 3 = n3 at *
    obtain ⟨z0, z1, z2, z3, z4, y⟩ := cells5 hW
    have HR4 := Lib.hid hW
    clear hW
    go_wp2_with fail
    refine bodyPost_ret (gres_row3 rfl _ _ w.heap.size _ _ (0, 0) _ rfl (by exact row5 HR4.out (.int .u64 (n0 : Nat)) (.int .u64 (n1 : Nat)) (.int .u64 (n2 : Nat)) (.int .u64 (n3 : Nat)) (.bool false)) Try.underlying52 rfl (by kernel_rfl)) rfl ?_
    refine ⟨(below4 HB4.out (Nat.le_refl _) (.int .u64 (n0 : Nat)) (.int .u64 (n1 : Nat)) (.int .u64 (n2 : Nat)) (.int .u64 (n3 : Nat))).setCell (p := ⟨w.heap.size, 4, none⟩) (Nat.le_refl _) (.bool false), ?_⟩
    rw [HR.out]
    refine ⟨orR (fun _ => false) 0 (0 + 1), [], ?_⟩
    rw [HWF.out]
    rfl
  | some q =>
    obtain ⟨x, r⟩ := q
    have HR := Lib.hid (show nx13 c t = some (.one x, r) by rw [hnx, hnbv]; rfl)
    rw [hnbv] at hnb
    have HNB := Lib.hid (show ∀ wx, Calls Try.prog 29 #[.string (bs (c :: t))] wx fun e w' => e = .returned (.tuple #[.int .u8 (x.toNat : Nat), .string (bs r), .bool true]) ∧ ∃ n, w' = wx.drewN n from hnb)
    have HA := Lib.hid (fun wx h => HADD.out x.toNat x.toNat_lt wx h)
    have hone := one_or x
    clear c1 c2 c3 hby hcn hnb hnx hrow hnbv HADD
    generalize c :: t = s at *
    generalize x.toNat = xn at *
    go_enter Try.func21, Try.ntmps21
    go_wp2_with fail
    refine (HNB.out _).mono ?_
    rintro e w1 ⟨rfl, n, rfl⟩
    go_wp2_with fail
    refine (HA.out _ (HROW.out n _ rfl)).mono ?_
    rintro e w2 ⟨rfl, k2, hS2⟩
    have hW := hS2
    unfold SetB at hW
    rw [pArr_lit] at hW
    have HB4 := Lib.hid ((Below_drewN2 HB0.out n).trans (k2.below (B := w.heap.size) (by show _ ≤ (w.alloc _).heap.size; rw [World.size_alloc]; omega) (by simp)))
    have HWF := Lib.hid (show pArr (.one x) = #[.int .u64 ((wd (orR (fun _ => false) xn (xn + 1)) 0 : Nat) : Int), .int .u64 ((wd (orR (fun _ => false) xn (xn + 1)) 1 : Nat) : Int), .int .u64 ((wd (orR (fun _ => false) xn (xn + 1)) 2 : Nat) : Int), .int .u64 ((wd (orR (fun _ => false) xn (xn + 1)) 3 : Nat) : Int), .bool false] by unfold pArr; rw [← hone]; exact pArr_lit (orR (fun _ => false) xn (xn + 1)) false)
    clear k2 hS2 hone
    generalize wd (orR (fun _ => false) xn (xn + 1)) 0 = n0 at *
    generalize wd (orR (fun _ => false) xn (xn + 1)) 1 = n1 at *
    generalize wd (orR (fun _ => false) xn (xn + 1)) 2 = n2 at *
    generalize wd (orR (fun _ => false) xn (xn + 1)) 3 = n3 at *
    obtain ⟨z0, z1, z2, z3, z4, y⟩ := cells5 hW
    have HR4 := Lib.hid hW
    clear hW
    go_wp2_with fail
    refine bodyPost_ret (gres_row3 rfl _ _ w.heap.size _ _ (0, 0) _ rfl (by exact row5 HR4.out (.int .u64 (n0 : Nat)) (.int .u64 (n1 : Nat)) (.int .u64 (n2 : Nat)) (.int .u64 (n3 : Nat)) (.bool false)) Try.underlying52 rfl (by kernel_rfl)) rfl ?_
    refine ⟨(below4 HB4.out (Nat.le_refl _) (.int .u64 (n0 : Nat)) (.int .u64 (n1 : Nat)) (.int .u64 (n2 : Nat)) (.int .u64 (n3 : Nat))).setCell (p := ⟨w.heap.size, 4, none⟩) (Nat.le_refl _) (.bool false), ?_⟩
    rw [HR.out]
    show _ = Ending.returned (.tuple #[.agg (pArr (.one x)), .string (bs r), .bool true])
    rw [HWF.out]
    rfl
end Go.Proofs.Ytmhmipbbbccfgaa
