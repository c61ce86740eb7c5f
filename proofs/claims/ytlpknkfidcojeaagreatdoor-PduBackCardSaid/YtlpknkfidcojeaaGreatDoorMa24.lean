/- Texts on the program and on the document, joined: PduI, OidC, OidH, Blw. -/
import Derived.Test.YtlpknkfidcojeaaGreatDoorMa19
import Derived.Test.YtlpknkfidcojeaaGreatDoorMa12
import Derived.Test.YtlpknkfidcojeaaGreatDoorRows
import Derived.Test.YtlpknkfidcojeaaGreatDoorMa01
import Derived.Test.YtlpknkfidcojeaaGreatDoorShelf
import Derived.ProofKit
/- pdu's areBinds, Check, walked. -/
namespace Go.Proofs.YtlpknkfidcojeaaGreatDoor
open Go.ChangeShapes Go.WideShapes Go.ChangeAt Go.RowKit K P1 B5
open D8 (Bd Un lst)
set_option linter.unusedVariables false

/-- Texts that are not too long for the program's walk. -/
def LimP (xs : List Bd) : Prop := ∀ x ∈ xs, x.o.length ≤ 1000000 ∧ x.s.length ≤ 1000000 ∧ x.fits
theorem LimP.lim {xs : List Bd} (h : LimP xs) : Lim xs := fun x hx => ⟨by have := (h x hx).1; omega, by have := (h x hx).2.1; omega, (h x hx).2.2⟩
theorem LimP.at {xs : List Bd} (h : LimP xs) {i : Nat} (hi : i < xs.length) : (xs.getD i nob).o.length ≤ 1000000 ∧ (xs.getD i nob).s.length ≤ 1000000 ∧ (xs.getD i nob).fits := by
  rw [List.getD_eq_getElem?_getD, List.getElem?_eq_getElem hi]
  exact h _ (List.getElem_mem hi)
set_option maxRecDepth 100000 in
set_option maxHeartbeats 1000000 in
theorem arebinds_walk (xs : List Bd) (ao : Option Addr) (cap : Nat) (hl : xs.length ≤ 140737488351232) (hx : LimP xs) (w : World) (T : Tabs w) (hr : RdB w ao xs) :
    Calls Tryz.prog 40 #[.slice ao xs.length cap] w fun e w' => e = .returned (.bool (decide (xs.length ≤ 4096) && xs.all Bd.ok)) ∧ Below w.heap.size w w' := by
  have HT := Lib.hid T
  clear T
  by_cases h4 : xs.length ≤ 4096
  · rw [decide_eq_true h4, Bool.true_and]
    have h4' : ((xs.length : Nat) : Int) ≤ 4096 := by omega
    go_enter Tryz.func40, Tryz.ntmps40
    go_wp2_with fail
    go_loopg [12] xs.length (fun g v wr => IbRel xs w g v wr)
    case atStart => exact ⟨0, by omega, rfl, rfl, Below.refl _ _⟩
    case round =>
      obtain ⟨i, hi, rfl, hall, hb⟩ := hrel
      cases gk with
      | zero =>
        obtain rfl : i = xs.length := by omega
        rw [List.take_length] at hall
        have HALL := Lib.hid hall
        clear hall
        go_wp2
        go_ret
        exact ⟨by rw [HALL.out]; rfl, hb⟩
      | succ g =>
        have hlt : i < xs.length := by omega
        obtain ⟨l1, l2, l3⟩ := hx.at hlt
        have HTK := Lib.hid (take_all hlt)
        have HNO := Lib.hid (fun h => all_not (xs := xs) hlt h)
        obtain ⟨x, hxe⟩ : ∃ x, xs.getD i nob = x := ⟨_, rfl⟩
        obtain ⟨b, off, rfl, hbl, c0, c1, c2, c3⟩ := (hr.below hb).at hlt hxe
        rw [hxe] at l1 l2 HTK HNO
        rw [hall] at HTK
        have hA := fun w1 (h : Tabs w1) => arcs_walk x.o l1 w1 h
        unfold ArPost at hA
        have hC := fun w1 (h : Tabs w1) => check_walk7 x.k x.n x.s l2 w1 h
        have hq := Bq.new wr x
        have ba := alloc_in wr (.cells #[.string (bs x.o), .int .i64 x.k, .int .i64 x.n, .string (bs x.s)] 42)
        have HTr := Lib.hid (HT.out.below (hb.trans (ba.mono hb.size)))
        clear hall hxe
        cases hx0 : O6.arcs x.o with
        | none =>
          have e : x.ok = false := by unfold Bd.ok; rw [hx0]; rfl
          have HAL := Lib.hid (HNO.out e)
          have e1 : (((arE x.o : Nat) : Int) != 0) = true := by rw [(ar_none hx0).1]; rfl
          have HA := Lib.hid hA
          clear hA hC e hx0 HTK HNO
          generalize arE x.o = E at *
          go_wp2_with fail
          refine (HA.out _ HTr.out).mono ?_
          rintro e w1 ⟨va, rfl, hoa, hb1⟩
          have hb2 := hb.trans ((Below_in hb1).mono hb.size)
          clear hb1
          go_wp2
          go_ret
          exact ⟨by rw [HAL.out]; rfl, hb2⟩
        | some l =>
          have e : x.ok = V7.ckV x.k x.n x.s := by unfold Bd.ok; rw [hx0]; rfl
          have e1 : arE x.o = 0 := (ar_some hx0).1
          rw [e1] at hA
          rw [e] at HTK HNO
          unfold V7.ckE at hC
          have HA := Lib.hid hA
          cases hk : V7.ckV x.k x.n x.s
          · have HAL := Lib.hid (HNO.out hk)
            rw [hk] at hC
            have HC := Lib.hid hC
            clear hA hC e e1 hx0 HTK HNO hk
            go_wp2_with fail
            refine (HA.out _ HTr.out).mono ?_
            rintro e w1 ⟨va, rfl, hoa, hb1⟩
            have HT1 := Lib.hid (HTr.out.below hb1)
            obtain ⟨z0, z1, z2, z3⟩ := (hq.below hb1).cells
            have hb2 := hb.trans ((Below_in hb1).mono hb.size)
            clear hb1
            go_wp2_with fail
            refine (HC.out _ HT1.out).mono ?_
            rintro e w2 ⟨rfl, d2⟩
            go_wp2
            go_ret
            exact ⟨by rw [HAL.out]; rfl, hb2.trans (d2.mono hb2.size)⟩
          · rw [hk] at hC HTK
            have HC := Lib.hid hC
            clear hA hC e e1 hx0 HNO hk
            go_wp2_with fail
            refine (HA.out _ HTr.out).mono ?_
            rintro e w1 ⟨va, rfl, hoa, hb1⟩
            have HT1 := Lib.hid (HTr.out.below hb1)
            obtain ⟨z0, z1, z2, z3⟩ := (hq.below hb1).cells
            have hb2 := hb.trans ((Below_in hb1).mono hb.size)
            clear hb1
            go_wp2_with fail
            refine (HC.out _ HT1.out).mono ?_
            rintro e w2 ⟨rfl, d2⟩
            go_wp2
            go_roundg g
            case measure => omega
            case rel => exact ⟨i + 1, by omega, by simp, HTK.out, hb2.trans (d2.mono hb2.size)⟩
  · have h4' : (4096 : Int) < ((xs.length : Nat) : Int) := by omega
    rw [decide_eq_false h4, Bool.false_and]
    go_enter Tryz.func40, Tryz.ntmps40
    go_wp2
    go_ret
    exact ⟨rfl, Below.refl _ _⟩
set_option maxRecDepth 100000 in
set_option maxHeartbeats 4000000 in
theorem check8_walk (u : Un) (ao : Option Addr) (cap : Nat) (hl : u.l.length ≤ 140737488351232) (hx : LimP u.l) (w : World) (T : Tp w) (hr : RdB w ao u.l) :
    Calls Tryz.prog 17 #[.agg #[.int .i64 u.t, .int .i64 u.r, .int .i64 u.a, .int .i64 u.i, .slice ao u.l.length cap]] w fun e w' => e = .returned (.int .i64 (ckU u : Nat)) ∧ Below w.heap.size w w' := by
  have hba := alloc_in w (.cells #[.int .i64 u.t, .int .i64 u.r, .int .i64 u.a, .int .i64 u.i, .slice ao u.l.length cap] 25)
  have huq := Uq.new 25 w u ao cap
  have hB := fun w1 (h : Tabs w1) (hr : RdB w1 ao u.l) => arebinds_walk u.l ao cap hl hx w1 h hr
  have HR := Lib.hid (hr.below hba)
  have HT := Lib.hid (T.below hba)
  have HN := Lib.hid (fun w1 => numbersof_walk u.t u.r u.a u.i ao u.l.length cap w1)
  have hM := fun w1 (h : Least w1) => maybe8_walk u.r u.a u.i w1 h
  have hI := fun w1 => istag8_walk u.t w1
  have he : u.ok = ((u.t == 162 || (u.t == 166 || u.t == 167)) && (nb u.r u.a u.i && (decide (u.l.length ≤ 4096) && u.l.all Bd.ok))) := by
    unfold Un.ok nb
    simp only [Bool.and_assoc]
  clear T hr
  unfold ckU
  rw [he]
  clear he
  cases hi : (u.t == 162 || (u.t == 166 || u.t == 167))
  · rw [hi] at hI
    have HI := Lib.hid hI
    rw [Bool.false_and]
    clear hI hM hB hi HN
    go_enter Tryz.func17, Tryz.ntmps17
    go_wp2_with fail
    refine (HI.out _).mono ?_
    rintro e w1 ⟨rfl, rfl⟩
    go_wp2
    go_ret
    exact ⟨rfl, hba⟩
  · rw [hi] at hI
    have HI := Lib.hid hI
    rw [Bool.true_and]
    cases hn : nb u.r u.a u.i
    · rw [hn] at hM
      have HM := Lib.hid hM
      rw [Bool.false_and]
      clear hI hM hB hi hn
      go_enter Tryz.func17, Tryz.ntmps17
      go_wp2_with fail
      refine (HI.out _).mono ?_
      rintro e w1 ⟨rfl, rfl⟩
      go_wp2_with fail
      refine (HN.out _).mono ?_
      rintro e w2 ⟨rfl, b2⟩
      go_wp2_with fail
      refine (HM.out _ (HT.out.2.below b2)).mono ?_
      rintro e w3 ⟨rfl, b3⟩
      go_wp2
      go_ret
      exact ⟨rfl, Below_in (b2.trans (b3.mono b2.size))⟩
    · rw [hn] at hM
      have HM := Lib.hid hM
      rw [Bool.true_and]
      cases hc : (decide (u.l.length ≤ 4096) && u.l.all Bd.ok)
      all_goals
        rw [hc] at hB
        have HB := Lib.hid hB
        clear hI hM hB hi hn hc
        go_enter Tryz.func17, Tryz.ntmps17
        go_wp2_with fail
        refine (HI.out _).mono ?_
        rintro e w1 ⟨rfl, rfl⟩
        go_wp2_with fail
        refine (HN.out _).mono ?_
        rintro e w2 ⟨rfl, b2⟩
        go_wp2_with fail
        refine (HM.out _ (HT.out.2.below b2)).mono ?_
        rintro e w3 ⟨rfl, b3⟩
        have b23 := b2.trans (b3.mono b2.size)
        obtain ⟨z0, z1, z2, z3, z4⟩ := (huq.below b23).cells
        go_wp2_with fail
        refine (HB.out _ (HT.out.1.below b23) (HR.out.below b23)).mono ?_
        rintro e w4 ⟨rfl, b4⟩
        go_wp2
        go_ret
        exact ⟨rfl, Below_in (b23.trans (b4.mono b23.size))⟩
end Go.Proofs.YtlpknkfidcojeaaGreatDoor
/- The document's own begins and Within, walked. -/
namespace Go.Proofs.YtlpknkfidcojeaaGreatDoor
open Go.ChangeShapes Go.WideShapes Go.ChangeAt Go.RowKit K O6
set_option linter.unusedVariables false

theorem Below_drewNc {B : Nat} {a b : World} (h : Below B a b) (n : Nat) : Below B a (b.drewN n) := ⟨h.os, h.tape, h.output, h.size, h.block⟩
theorem within_long {a b : List Nat} (h : b.length < a.length) : within a b = false := by
  cases hw : within a b with
  | false => rfl
  | true =>
    obtain ⟨t, rfl⟩ := (O6.within_iff a b).1 hw
    simp at h; omega
theorem within_diff {a b : List Nat} {i : Nat} (hi : i < a.length) (h : a.getD i 0 ≠ b.getD i 0) : within a b = false := by
  cases hw : within a b with
  | false => rfl
  | true =>
    obtain ⟨t, rfl⟩ := (O6.within_iff a b).1 hw
    refine absurd ?_ h
    rw [List.getD, List.getD, List.getElem?_append_left hi]
theorem within_same : ∀ {a b : List Nat}, a.length ≤ b.length → (∀ j, j < a.length → a.getD j 0 = b.getD j 0) → within a b = true
  | [], b, _, _ => (O6.within_iff [] b).2 ⟨b, rfl⟩
  | x :: a, [], h, _ => by simp at h
  | x :: a, y :: b, h, hj => by
    have h1 : x = y := hj 0 (by simp)
    obtain ⟨t, rfl⟩ := (O6.within_iff a b).1 (within_same (a := a) (b := b) (by simp at h; omega) (fun j h2 => by have := hj (j + 1) (by simp; omega); simpa using this))
    exact (O6.within_iff _ _).2 ⟨t, by rw [h1]; rfl⟩
def BeRel (a b : List Nat) (w : World) (g : Nat) (v4 : Value) (wr : World) : Prop :=
  ∃ i, i + g = a.length ∧ v4 = .int .i64 (i : Nat) ∧ (∀ j, j < i → a.getD j 0 = b.getD j 0) ∧ ∃ m, wr = w.drewN m
set_option maxRecDepth 100000 in
theorem qbegins_walk (a b : List Nat) (ha : a.length ≤ 1000000) (hb : b.length ≤ 1000000) (ao bo : Option Addr) (ca cb : Nat) (w : World) (h1 : RdZ w ao a.length (fz a)) (h2 : RdZ w bo b.length (fz b)) :
    Calls Tryz.prog 70 #[.slice ao a.length ca, .slice bo b.length cb] w fun e w' => e = .returned (.bool (within a b)) ∧ ∃ m, w' = w.drewN m := by
  by_cases hl : b.length < a.length
  · have HE := Lib.hid (within_long hl)
    have hl' : ((b.length : Nat) : Int) < (a.length : Nat) := by omega
    clear h1 h2 hl
    go_enter Tryz.func70, Tryz.ntmps70
    go_wp2
    go_ret
    exact ⟨by rw [HE.out]; rfl, 0, rfl⟩
  · have hl' : ((a.length : Nat) : Int) ≤ (b.length : Nat) := by omega
    have hlb : a.length ≤ b.length := by omega
    have HA := Lib.hid h1
    have HB := Lib.hid h2
    clear h1 h2 hl
    go_enter Tryz.func70, Tryz.ntmps70
    go_wp2
    go_loopg [5] a.length (fun g v4 wr => BeRel a b w g v4 wr)
    case atStart => exact ⟨0, by omega, rfl, fun j hj => by omega, 0, rfl⟩
    case round =>
      obtain ⟨i, hig, rfl, hall, m, rfl⟩ := hrel
      cases gk with
      | zero =>
        obtain rfl : i = a.length := by omega
        have HE := Lib.hid (within_same hlb hall)
        clear hig hall HA HB
        go_wp2
        go_ret
        exact ⟨by rw [HE.out]; rfl, m, rfl⟩
      | succ g =>
        have hil : i < a.length := by omega
        rcases HA.out with h0 | ⟨ga, oa, rfl, _, hca⟩
        · omega
        · rcases HB.out with h0 | ⟨gb, ob, rfl, _, hcb⟩
          · omega
          · have c1 : (w.drewN m).cell? ⟨ga, oa + i, none⟩ = some (.int .i64 ((a.getD i 0 : Nat) : Int)) := hca i hil
            have c2 : (w.drewN m).cell? ⟨gb, ob + i, none⟩ = some (.int .i64 ((b.getD i 0 : Nat) : Int)) := hcb i (by omega)
            have HAL := Lib.hid hall
            have HD := Lib.hid (show ∀ k, (w.drewN m).drewN k = w.drewN (m + k) from fun k => by unfold World.drewN; simp [Nat.add_assoc])
            generalize w.drewN m = w5 at c1 c2 HD ⊢
            by_cases hxy : a.getD i 0 = b.getD i 0
            · have HX := Lib.hid hxy
              rw [← hxy] at c2
              clear hca hcb HA HB hall hxy
              generalize hx : ((a.getD i 0 : Nat) : Int) = x at c1 c2
              clear hx
              go_wp2_with fail
              go_quiet (fail)
              go_wp2
              go_roundg g
              case measure => omega
              case rel =>
                refine ⟨i + 1, by omega, by simp, fun j hj => ?_, m + nq, HD.out nq⟩
                rcases Nat.lt_or_ge j i with h1 | h1
                · exact HAL.out j h1
                · obtain rfl : j = i := by omega
                  exact HX.out
            · have HE := Lib.hid (within_diff (b := b) hil hxy)
              have hne : (((a.getD i 0 : Nat) : Int) == ((b.getD i 0 : Nat) : Int)) = false := by rw [beq_eq_false_iff_ne]; omega
              have hne2 : (((a.getD i 0 : Nat) : Int) != ((b.getD i 0 : Nat) : Int)) = true := by rw [bne_iff_ne]; omega
              clear hca hcb HA HB hall HAL hxy
              generalize a.getD i 0 = x at *
              generalize b.getD i 0 = y at *
              go_wp2_with fail
              go_quiet (fail)
              go_wp2
              go_ret
              exact ⟨by rw [HE.out]; rfl, m + nq, HD.out nq⟩
/-- Whether one text's arcs begin another's: false, if one is none's. -/
def wi (r s : List UInt8) : Bool := (arcs r).isSome && ((arcs s).isSome && within (arL r) (arL s))
theorem arL_len (s : List UInt8) : (arL s).length ≤ 128 := by
  unfold arL
  cases h : arcs s with
  | none => simp
  | some l => exact (isArcs_len ((arcs_iff s l).1 h).1).2
set_option maxRecDepth 100000 in
theorem qwithin_walk (r s : List UInt8) (hr : r.length ≤ 140737488351232) (hs : s.length ≤ 140737488351232) (w : World) :
    Calls Tryz.prog 39 #[.string (bs r), .string (bs s)] w fun e w' => e = .returned (.bool (wi r s)) ∧ Below w.heap.size w w' := by
  have HA := Lib.hid (qarcs_walk r hr w)
  have HB := Lib.hid (qarcs_walk s hs)
  have hwi : wi r s = ((arE r == 0) && ((arE s == 0) && within (arL r) (arL s))) := by
    unfold wi arE
    cases (arcs r).isSome <;> cases (arcs s).isSome <;> rfl
  rw [hwi]
  have hla := arL_len r
  have hlb := arL_len s
  have hea : arE r = 0 ∨ arE r = 60 := by unfold arE; cases (arcs r).isSome <;> simp
  have heb : arE s = 0 ∨ arE s = 60 := by unfold arE; cases (arcs s).isSome <;> simp
  unfold ArPost at HA HB
  clear hwi
  generalize arE r = er at *
  generalize arE s = es at *
  generalize arL r = la at *
  generalize arL s = lb at *
  rcases hea with rfl | rfl <;> rcases heb with rfl | rfl
  all_goals
    go_enter Tryz.func39, Tryz.ntmps39
    go_wp2_with fail
    refine HA.out.mono ?_
    rintro e w1 ⟨va, rfl, hoa, hb1⟩
    go_wp2_with fail
    refine (HB.out w1).mono ?_
    rintro e w2 ⟨vb, rfl, hob, hb2⟩
    have hoa2 := hoa.below hb2
    have hb3 := hb1.trans (hb2.mono hb1.size)
    clear hoa hb1 hb2
    obtain ⟨ao, ca, rfl, hra⟩ := RdZ.own hoa2
    obtain ⟨bo, cb, rfl, hrb⟩ := RdZ.own hob
    have HW := Lib.hid (qbegins_walk la lb (by omega) (by omega) ao bo ca cb w2 hra hrb)
    clear hoa2 hob hra hrb
    first
      | (go_wp2; go_ret; exact ⟨rfl, hb3⟩)
      | (go_wp2_with fail
         refine HW.out.mono ?_
         rintro e w3 ⟨rfl, mq, rfl⟩
         go_wp2
         go_ret
         exact ⟨rfl, Below_drewNc hb3 _⟩)
end Go.Proofs.YtlpknkfidcojeaaGreatDoor
/- The document's own Child, walked. -/
namespace Go.Proofs.YtlpknkfidcojeaaGreatDoor
open Go.ChangeShapes Go.WideShapes Go.ChangeAt Go.RowKit K O6
set_option linter.unusedVariables false

theorem ownI_empty (w : World) (B : Nat) (T : TypeId) (hB : B ≤ w.heap.size) : OwnI (w.alloc (.cells #[] T)) B T (.slice (some ⟨w.heap.size, 0, none⟩) 0 0) [] :=
  ⟨rfl, .inr ⟨w.heap.size, 0, _, rfl, hB, rowNew w _, Nat.le_refl _, by unfold maxLen; omega, rfl, rfl⟩⟩
theorem OwnI.putAll {w : World} {B : Nat} {T : TypeId} {v : Value} {cs ds : List Nat} (h : w.ownsRow B T 1 v (cs.length + ds.length) (nums cs ++ nums ds)) : OwnI w B T v (cs ++ ds) := by
  unfold OwnI
  rw [List.length_append, nums_app]
  exact h
def chE (s : List UInt8) (x : Int) : Nat := match arcs s with
  | none => 60
  | some l => if inR x then (if isArcs (l ++ [x.toNat]) then 0 else 60) else 1
def chS (s : List UInt8) (x : Int) : List UInt8 := match arcs s with
  | none => []
  | some l => if inR x then (if isArcs (l ++ [x.toNat]) then put (l ++ [x.toNat]) else []) else []
theorem ch_none {s : List UInt8} (h : arcs s = none) (x : Int) : chE s x = 60 ∧ chS s x = [] := by unfold chE chS; rw [h]; exact ⟨rfl, rfl⟩
theorem ch_far {s : List UInt8} {l : List Nat} (h : arcs s = some l) {x : Int} (hx : inR x = false) : chE s x = 1 ∧ chS s x = [] := by
  unfold chE chS; rw [h]; simp [hx]
theorem ch_some {s : List UInt8} {l : List Nat} (h : arcs s = some l) {x : Int} (hx : inR x = true) :
    chE s x = (if isArcs (l ++ [x.toNat]) then 0 else 60) ∧ chS s x = (if isArcs (l ++ [x.toNat]) then put (l ++ [x.toNat]) else []) := by
  unfold chE chS; rw [h]; simp [hx]
end Go.Proofs.YtlpknkfidcojeaaGreatDoor
/- strings.Builder's WriteString, walked at this translation. -/
namespace Go.Proofs.YtlpknkfidcojeaaGreatDoor
open Go.ChangeShapes Go.WideShapes Go.ChangeAt Go.RowKit K
set_option linter.unusedVariables false

/-- A builder in block b, that has these bytes, with all that is its own behind B. -/
def Bld (B b : Nat) (l : List UInt8) (w : World) : Prop := Lib.IsBuilder 79 5 B b (Lib.byteCells l) w
theorem bytes_cells (l : List UInt8) : Lib.strCells (bs l) = Lib.byteCells l := by
  unfold Lib.strCells Lib.byteCells
  rw [bs_toList]
theorem cells_app (a b : List UInt8) : Lib.byteCells (a ++ b) = Lib.byteCells a ++ Lib.byteCells b := by
  unfold Lib.byteCells; rw [List.map_append]
theorem cells_len (a : List UInt8) : (Lib.byteCells a).length = a.length := by
  unfold Lib.byteCells; rw [List.length_map]

theorem info_b : (Tryz.prog.info? 79).map (·.size) = some 2 := by kernel_rfl
theorem info_u : (Tryz.prog.info? 5).map (fun i => (i.zero, i.size, i.bytes)) = some (some (.int .u8 0), 1, 1) := by kernel_rfl
set_option maxHeartbeats 1000000 in
set_option maxRecDepth 100000 in
theorem check_used (b : Nat) (w : World) (h0 : w.cell? ⟨b, 0, none⟩ = some (.pointer (some ⟨b, 0, none⟩))) :
    Calls Tryz.prog 61 #[.pointer (some ⟨b, 0, none⟩)] w fun e w' => e = .returned (.tuple #[]) ∧ w' = w := by
  obtain ⟨j, hj, _⟩ := Option.map_eq_some_iff.1 info_b
  go_enter Tryz.func61, Tryz.ntmps61
  go_wp2
  rw [Lib.run_neq_ptr_same w _ Tryz.underlying76 hj]
  go_wp2
  go_end0
  exact ⟨rfl, rfl⟩
set_option maxHeartbeats 1000000 in
set_option maxRecDepth 100000 in
theorem check_fresh (b : Nat) (w : World) (h0 : w.cell? ⟨b, 0, none⟩ = some (.pointer none)) (hsh : w.shape? b = some (79, 2)) (hfz : w.frozen? ⟨b, 0, none⟩ = false) :
    Calls Tryz.prog 61 #[.pointer (some ⟨b, 0, none⟩)] w fun e w' => e = .returned (.tuple #[]) ∧ w' = w.setCell ⟨b, 0, none⟩ (.pointer (some ⟨b, 0, none⟩)) := by
  obtain ⟨j, hj, hjs⟩ := Option.map_eq_some_iff.1 info_b
  go_enter Tryz.func61, Tryz.ntmps61
  go_wp2
  rw [Lib.run_to_unsafe w ⟨b, 0, none⟩ Tryz.underlying76 Tryz.underlying138 hj (by rw [hjs]; decide) hsh (Nat.zero_lt_succ 1)]
  simp only [Result.andThen]
  rw [Oper.upon_value]
  go_wp2
  rw [run_callFunc_extern Tryz.func92 (by kernel_rfl) (by kernel_rfl) (by kernel_rfl) (e := Extern.AbiNoEscape.same) (by kernel_rfl)]
  rw [Lib.run_noEscape]
  simp only [Result.andThen]
  rw [Oper.upon_value]
  go_wp2
  rw [Lib.run_from_unsafe w ⟨b, 0, none⟩ Tryz.underlying138 Tryz.underlying76 hj hsh (by kernel_rfl)]
  simp only [Result.andThen]
  rw [Oper.upon_value]
  go_wp2
  go_end0
  exact ⟨rfl, rfl⟩
/-- Blocks of another type than a builder's bytes, but for block b, are as they were. -/
def Oth (b : Nat) (w w' : World) : Prop := ∀ (k : Nat) (cs : Array Value) (T : TypeId) (fr : Nat × Nat), w.heap[k]? = some (.cells cs T fr) → T ≠ 5 → k ≠ b → w'.heap[k]? = w.heap[k]?
theorem check_any (B b : Nat) (cs : List Value) (w : World) (h : Lib.IsBuilder 79 5 B b cs w) :
    Calls Tryz.prog 61 #[.pointer (some ⟨b, 0, none⟩)] w fun e w' => e = .returned (.tuple #[]) ∧ (Lib.BuilderAt 79 5 B b (.pointer (some ⟨b, 0, none⟩)) cs w' ∧ Below B w w' ∧ Oth b w w') := by
  rcases h with h | h
  · refine (check_fresh b w h.cell0 h.shape h.frozen0).mono ?_
    rintro e w' ⟨rfl, rfl⟩
    exact ⟨rfl, h.used _, (Below.refl B w).setCell (p := ⟨b, 0, none⟩) h.1 _, fun k _ _ _ _ _ hk => Below.heap_setCell _ _ _ _ hk⟩
  · refine (check_used b w h.cell0).mono ?_
    rintro e w' ⟨rfl, rfl⟩
    exact ⟨rfl, h, Below.refl B _, fun _ _ _ _ _ _ _ => rfl⟩
set_option maxHeartbeats 2000000 in
set_option maxRecDepth 100000 in
theorem wstr (B b : Nat) (l s : List UInt8) (w : World) (h : Bld B b l w) (hlen : l.length + s.length ≤ 140737488355328) (hBw : B ≤ w.heap.size) :
    Calls Tryz.prog 33 #[.pointer (some ⟨b, 0, none⟩), .string (bs s)] w fun e w' => e = .returned (.tuple #[.int .i64 (s.length : Nat), .nilIface]) ∧ (Bld B b (l ++ s) w' ∧ Below B w w' ∧ Oth b w w') := by
  unfold Bld at h
  have hlc := cells_len l
  obtain ⟨i0, hi, hz0, hz1, hz2⟩ := info_parts info_u
  have hcells : Lib.byteCells (l ++ s) = Lib.byteCells l ++ Lib.strCells (bs s) := by rw [cells_app, bytes_cells]
  have HCL := Lib.hid hcells
  have HB := Lib.hid (show ∀ w', Bld B b (l ++ s) w' = Lib.IsBuilder 79 5 B b (Lib.byteCells (l ++ s)) w' from fun _ => rfl)
  have hsz : (bs s).size = s.length := bs_size s
  generalize Lib.byteCells l = cs at *
  have hl2 : cs.length + (bs s).size ≤ 140737488355328 := by omega
  clear hcells hlc
  generalize Lib.byteCells (l ++ s) = ds at *
  have hs2 : s.length ≤ 140737488355328 := by omega
  have HSZ := Lib.hid hsz
  clear hsz
  go_enter Tryz.func33, Tryz.ntmps33
  go_wp2_with (go_at_call 61; refine (check_any B b cs _ h).mono ?_)
  rintro e w1 ⟨rfl, h1, hb1, ho1⟩
  obtain ⟨hB, v, hbk, hown, hne⟩ := h1
  have c0 : w1.cell? ⟨b, 0, none⟩ = some (.pointer (some ⟨b, 0, none⟩)) := by rw [Lib.cell_of_heap hbk]; rfl
  have c1 : w1.cell? ⟨b, 1, none⟩ = some v := by rw [Lib.cell_of_heap hbk]; rfl
  go_wp2_with (at_builtin; refine Lib.wpList_append_own_string _ rfl _ _ 77 9 rfl B 5 i0 Tryz.underlying77 Tryz.underlying9 hi hz0 hz1 hz2 _ _ _ rfl hown (bs s) rfl ?c3 ?c4 ?c5 ?_)
  case c3 => unfold maxLen; omega
  case c4 => omega
  case c5 => have := hb1.size; omega
  intro v' w2 hown' hgrow _
  have hlt : b < w1.heap.size := lt_of_block hbk
  have hb2 : w2.heap[b]? = some (.cells #[.pointer (some ⟨b, 0, none⟩), v] 79 (0, 0)) := by
    rw [hgrow.block b hlt (fun e => hne e.symm)]
    exact hbk
  have d0 : w2.cell? ⟨b, 0, none⟩ = some (.pointer (some ⟨b, 0, none⟩)) := by rw [Lib.cell_of_heap hb2]; rfl
  have d1 : w2.cell? ⟨b, 1, none⟩ = some v := by rw [Lib.cell_of_heap hb2]; rfl
  have f1 : w2.frozen? ⟨b, 1, none⟩ = false := Lib.frozen_of_heap hb2 1
  obtain ⟨ao, n', cap, rfl⟩ : ∃ ao n' cap, v' = .slice ao n' cap := by
    rcases hown'.2 with ⟨hv, _⟩ | ⟨g, cap, cur, hv, _⟩
    · exact ⟨_, _, _, hv⟩
    · exact ⟨_, _, _, hv⟩
  go_wp2
  go_ret2
  refine ⟨rfl, ?_, ?_, ?_⟩
  · rw [HB.out, HCL.out]
    exact .inr (Lib.BuilderAt.put (T := 79) (e := 5) hB hb2 (bs' := cs ++ Lib.strCells (bs s)) (by have hq := hown'; rw [← HSZ.out] at hq; simpa [Lib.strCells_length] using hq) (by decide))
  · exact (hb1.grown hgrow (by have := hb1.size; omega) (fun k hk => (hown.lt k hk).1)).setCell (p := ⟨b, 1, none⟩) hB _
  · intro k cs T fr hk hT hkb
    have h1 := ho1 k cs T fr hk hT hkb
    rw [Below.heap_setCell _ _ _ _ hkb, hgrow.block k (lt_of_block (h1.trans hk)) (fun e => Lib.ownBlock_ne hown (h1.trans hk) hT e.symm)]
    exact h1
/-- What a builder is, stays, whatever is made behind. -/
theorem own_below {w w' : World} {B : Nat} {T : TypeId} {n : Nat} {v : Value} {m : Nat} {xs : List Value} (h : w.ownsRow B T n v m xs) (k : Below w.heap.size w w') : w'.ownsRow B T n v m xs := by
  refine ⟨h.1, ?_⟩
  rcases h.2 with hn | ⟨g, cap, cur, h1, h2, h3, h4⟩
  · exact .inl hn
  · exact .inr ⟨g, cap, cur, h1, h2, (k.block g (lt_of_block h3)).trans h3, h4⟩
theorem bld_below {w w' : World} {B b : Nat} {l : List UInt8} (h : Bld B b l w) (k : Below w.heap.size w w') : Bld B b l w' := by
  unfold Bld at *
  rcases h with ⟨hB, v, hbk, hown, hne⟩ | ⟨hB, v, hbk, hown, hne⟩
  · exact .inl ⟨hB, v, (k.block b (lt_of_block hbk)).trans hbk, own_below hown k, hne⟩
  · exact .inr ⟨hB, v, (k.block b (lt_of_block hbk)).trans hbk, own_below hown k, hne⟩
theorem own_set {w : World} {B : Nat} {e : TypeId} {n : Nat} {v : Value} {m : Nat} {xs : List Value} (h : w.ownsRow B e n v m xs) {k : Nat} {cs : Array Value} {T : TypeId} {fr : Nat × Nat} (hk : w.heap[k]? = some (.cells cs T fr)) (hT : T ≠ e) (i : Nat) (u : Value) : (w.setCell ⟨k, i, none⟩ u).ownsRow B e n v m xs := by
  refine ⟨h.1, ?_⟩
  rcases h.2 with hn | ⟨g, cap, cur, h1, h2, h3, h4⟩
  · exact .inl hn
  · refine .inr ⟨g, cap, cur, h1, h2, (Below.heap_setCell _ _ _ _ ?_).trans h3, h4⟩
    intro hgk
    have hgk' : g = k := hgk
    rw [hgk', hk] at h3
    injection h3 with h3
    injection h3 with _ h3
    exact hT h3
theorem bld_set {w : World} {B b : Nat} {l : List UInt8} (h : Bld B b l w) {k : Nat} {cs : Array Value} {T : TypeId} {fr : Nat × Nat} (hk : w.heap[k]? = some (.cells cs T fr)) (hT : T ≠ 5) (hb : b ≠ k) (i : Nat) (u : Value) : Bld B b l (w.setCell ⟨k, i, none⟩ u) := by
  unfold Bld at *
  rcases h with ⟨hB, v, hbk, hown, hne⟩ | ⟨hB, v, hbk, hown, hne⟩
  · exact .inl ⟨hB, v, (Below.heap_setCell _ _ _ _ hb).trans hbk, own_set hown hk hT i u, hne⟩
  · exact .inr ⟨hB, v, (Below.heap_setCell _ _ _ _ hb).trans hbk, own_set hown hk hT i u, hne⟩
theorem bstr (B b : Nat) (l : List UInt8) (w : World) (h : Bld B b l w) (hBw : B ≤ w.heap.size) :
    Calls Tryz.prog 36 #[.pointer (some ⟨b, 0, none⟩)] w fun e w' => e = .returned (.string (bs l)) ∧ Below B w w' :=
  Tryz.Builder_String_any B b l w h hBw
end Go.Proofs.YtlpknkfidcojeaaGreatDoor
