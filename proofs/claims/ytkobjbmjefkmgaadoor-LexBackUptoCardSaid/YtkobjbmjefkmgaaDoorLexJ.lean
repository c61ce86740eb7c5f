/- The document's Print, walked (gen_lexj.py writes this). -/
import Derived.Test.YtkobjbmjefkmgaaDoorLexI
import Derived.Test.YtkobjbmjefkmgaaDoorLexF
namespace Go.Proofs.YtkobjbmjefkmgaaDoor
open Go.ChangeShapes Go.WideShapes Go.ChangeAt Go.RowKit K L14
set_option linter.unusedVariables false

/-- A token with any numbers. -/
structure Tq where
  k : Int
  t : List UInt8
  l : Int
def tqC (x : Tq) : List Value := [.int .i64 x.k, .string (bs x.t), .int .i64 x.l]
def noQ : Tq := ⟨0, [], 0⟩
/-- Tokens with any numbers, as a call reads them. -/
def RdQ (w : World) (ao : Option Addr) (l : List Tq) : Prop := l.length = 0 ∨ ∃ g o, ao = some ⟨g, o, none⟩ ∧ g < w.heap.size ∧ ∀ i, i < l.length → ∀ j, j < 3 → w.cell? ⟨g, o + i * 3 + j, none⟩ = (tqC (l.getD i noQ))[j]?
theorem RdQ.below {w w' : World} {ao : Option Addr} {l : List Tq} (h : RdQ w ao l) (k : Below w.heap.size w w') : RdQ w' ao l := by
  rcases h with h | ⟨g, o, h1, h2, h3⟩
  · exact .inl h
  · exact .inr ⟨g, o, h1, Nat.lt_of_lt_of_le h2 k.size, fun i hi j hj => (k.cell (p := ⟨g, o + i * 3 + j, none⟩) h2).trans (h3 i hi j hj)⟩
theorem RdQ.at {w : World} {ao : Option Addr} {l : List Tq} (h : RdQ w ao l) {i : Nat} (hi : i < l.length) : ∃ g o, ao = some ⟨g, o, none⟩ ∧ g < w.heap.size ∧ w.cell? ⟨g, o + i * 3, none⟩ = some (.int .i64 (l.getD i noQ).k) ∧ w.cell? ⟨g, o + i * 3 + 1, none⟩ = some (.string (bs (l.getD i noQ).t)) ∧ w.cell? ⟨g, o + i * 3 + 2, none⟩ = some (.int .i64 (l.getD i noQ).l) := by
  rcases h with h | ⟨g, o, h1, h2, h3⟩
  · omega
  · exact ⟨g, o, h1, h2, (h3 i hi 0 (by omega)), (h3 i hi 1 (by omega)), (h3 i hi 2 (by omega))⟩
def bq (l : List Tq) : List (Nat × List UInt8) := l.map fun x => (kN x.k, x.t)
/-- What Print answers. -/
def prS (l : List Tq) : List UInt8 := if allT (bq l) then file (bq l) else []
def prE (l : List Tq) : Nat := if allT (bq l) then 0 else 140
theorem bq_at (l : List Tq) (i : Nat) (h : i < l.length) : bq (l.take (i + 1)) = bq (l.take i) ++ [(kN (l.getD i noQ).k, (l.getD i noQ).t)] := by
  unfold bq
  rw [List.take_succ_eq_append_getElem h, List.map_append]
  simp [List.getD, h]
theorem allT_app (a b : List (Nat × List UInt8)) : allT (a ++ b) = (allT a && allT b) := by unfold allT; rw [List.all_append]
theorem bq_no (l : List Tq) (i : Nat) (h : i < l.length) (hx : isT (kN (l.getD i noQ).k) (l.getD i noQ).t = false) : prS l = [] ∧ prE l = 140 := by
  have h1 : allT (bq l) = false := by
    have e : l = l.take (i + 1) ++ l.drop (i + 1) := (List.take_append_drop _ _).symm
    have e2 : bq l = bq (l.take (i + 1)) ++ bq (l.drop (i + 1)) := by
      conv => lhs; rw [e]
      unfold bq; rw [List.map_append]
    rw [e2, bq_at l i h, allT_app, allT_app]
    have : allT [(kN (l.getD i noQ).k, (l.getD i noQ).t)] = false := by show (isT _ _ && true) = false; rw [hx]; rfl
    rw [this]; simp
  unfold prS prE; rw [h1]; exact ⟨rfl, rfl⟩
theorem bhd_put {k : Nat} {t : List UInt8} (h : isT k t = true) : bhd k t = if k = 5 ∧ (put k t = [59] ∨ put k t = [123] ∨ put k t = [125]) then [10] else [32] := by
  unfold bhd
  by_cases hk : k = 5
  · subst hk
    have : put 5 t = t := by
      unfold isT at h
      rw [if_neg (by decide), if_neg (by decide), if_neg (by decide), if_neg (by decide), if_pos rfl] at h
      unfold put
      rw [if_neg (by decide), if_neg (by decide), if_neg (by decide), if_neg (by decide), if_pos rfl, h]; rfl
    rw [this]
  · rw [if_neg (fun x => hk x.1), if_neg (fun x => hk x.1)]
theorem kN5 {k : Int} : kN k = 5 ↔ k = 5 := by
  unfold kN
  constructor
  · intro h
    by_cases k1 : k = 1
    · rw [if_pos k1] at h; omega
    rw [if_neg k1] at h
    by_cases k2 : k = 2
    · rw [if_pos k2] at h; omega
    rw [if_neg k2] at h
    by_cases k3 : k = 3
    · rw [if_pos k3] at h; omega
    rw [if_neg k3] at h
    by_cases k4 : k = 4
    · rw [if_pos k4] at h; omega
    rw [if_neg k4] at h
    by_cases k5 : k = 5
    · exact k5
    rw [if_neg k5] at h; omega
  · rintro rfl; rfl
/-- The rounds. -/
def PrRel (l : List Tq) (w : World) (g : Nat) (vs vi : Value) (wr : World) : Prop :=
  ∃ i : Nat, i + g = l.length ∧ vi = .int .i64 (i : Nat) ∧ vs = .string (bs (file (bq (l.take i)))) ∧ (file (bq (l.take i))).length ≤ i * 4000100 ∧ allT (bq (l.take i)) = true ∧ Below w.heap.size w wr
theorem put_len (k : Nat) (t : List UInt8) : (put k t).length ≤ 4 * t.length + 2 := by
  unfold put
  have hq : (quo t).length ≤ 4 * t.length + 2 := by
    unfold quo
    have := (qbd_len t).2
    simp; omega
  have h0 : ([] : List UInt8).length ≤ 4 * t.length + 2 := by simp
  have h1 : t.length ≤ 4 * t.length + 2 := by omega
  have h2 : ((36 : UInt8) :: t).length ≤ 4 * t.length + 2 := by rw [List.length_cons]; omega
  (repeat' split) <;> assumption
theorem file_one (k : Nat) (t : List UInt8) : file [(k, t)] = put k t ++ bhd k t := by simp [file]
theorem prrel_next {l : List Tq} {w w' : World} {i g : Nat} {z : Int} {k : Nat} {t P b S : List UInt8} (hi : i + (g + 1) = l.length) (hl : i < l.length) (hx : bq (l.take (i + 1)) = bq (l.take i) ++ [(k, t)]) (hS : S = file (bq (l.take i))) (hn : S.length ≤ i * 4000100) (ha : allT (bq (l.take i)) = true) (hP : P = put k t) (hT : isT k t = true) (hb : b = bhd k t) (ht : t.length ≤ 1000000) (hz : z = ((i : Nat) : Int) + 1) (hB : Below w.heap.size w w') : PrRel l w g (.string (bs (S ++ (P ++ b)))) (.int .i64 z) w' := by
  have e : file (bq (l.take (i + 1))) = S ++ (P ++ b) := by rw [hx, file_app, ← hS, file_one, hP, hb]
  have h1 := put_len k t
  have h2 : b.length = 1 := by rw [hb]; rcases bhd_two k t with h | h <;> rw [h] <;> rfl
  refine ⟨i + 1, by omega, by rw [hz]; rfl, by rw [e], ?_, ?_, hB⟩
  · rw [e, List.length_append, List.length_append, hP]; omega
  · rw [hx, allT_app, ha]; simp [allT, hT]
set_option maxRecDepth 100000 in
set_option maxHeartbeats 1000000 in
theorem qprint14_walk (l : List Tq) (hl : l.length ≤ 5000) (ht : ∀ i, i < l.length → (l.getD i noQ).t.length ≤ 1000000) (ao : Option Addr) (cap : Nat) (w : World) (h : RdQ w ao l) : Calls Tryd.prog 12 #[.slice ao l.length cap] w fun e w' => e = .returned (.tuple #[.string (bs (prS l)), .int .i64 (prE l : Nat)]) ∧ Below w.heap.size w w' := by
  have H0 := Lib.hid (show PrRel l w l.length (.string (bs [])) (.int .i64 (0 : Nat)) w from ⟨0, by omega, rfl, rfl, by simp [bq, file], rfl, Below.refl _ _⟩)
  have HRQ := Lib.hid h
  have HT := Lib.hid ht
  clear h ht
  go_enter Tryd.func12, Tryd.ntmps12
  go_wp2
  go_loopg [4, 5, 6, 7] l.length (fun g v4 v5 v6 v7 wr => PrRel l w g v4 v5 wr)
  case atStart => exact H0.out
  case round =>
    obtain ⟨i, hig, rfl, rfl, hsn, hat, hb⟩ := hrel
    clear H0
    have HB := Lib.hid hb
    have hBs := hb.size
    have HAT := Lib.hid hat
    by_cases hi : i < l.length
    · obtain ⟨G, rfl⟩ : ∃ G, gk = G + 1 := ⟨gk - 1, by omega⟩
      have hi2 : ((i : Nat) : Int) < ((l.length : Nat) : Int) := by omega
      obtain ⟨q, o, rfl, hqs, c0, c1, c2⟩ := (HRQ.out.below hb).at hi
      have htl := HT.out i hi
      have hbq := bq_at l i hi
      have hno := bq_no l i hi
      obtain ⟨x, hx⟩ : ∃ x, l.getD i noQ = x := ⟨_, rfl⟩
      rw [hx] at c0 c1 c2 htl hbq hno
      have HPU := Lib.hid (fun w1 => qput_walk x.k x.l x.t htl w1)
      have HBQ := Lib.hid hbq
      have HTL := Lib.hid htl
      have HIG := Lib.hid hig
      obtain ⟨S, hS⟩ : ∃ S, file (bq (l.take i)) = S := ⟨_, rfl⟩
      rw [hS] at hsn ⊢
      have HSE := Lib.hid hS.symm
      have hpi := put_is (kN x.k) x.t
      have hpl := put_len (kN x.k) x.t
      have hbp := fun h => bhd_put (k := kN x.k) (t := x.t) h
      have hc2 : ∀ w1, Below wr.heap.size wr w1 → w1.cell? ⟨q, o + i * 3, none⟩ = some (.int .i64 x.k) := fun w1 b => (b.cell (p := ⟨q, o + i * 3, none⟩) hqs).trans c0
      have HC2 := Lib.hid hc2
      have hpl2 : (put (kN x.k) x.t).length ≤ 4000002 := by omega
      clear hbq hx hS hat hb htl hc2 hpl hig
      obtain ⟨P, hP⟩ : ∃ P, put (kN x.k) x.t = P := ⟨_, rfl⟩
      rw [hP] at hpi hbp hpl2
      have HP := Lib.hid hP.symm
      go_wp2_with fail
      refine (HPU.out _).mono ?_
      rintro e w1 ⟨rfl, b1⟩
      rw [hP]
      clear hP
      have HB1 := Lib.hid (HB.out.trans (b1.mono hBs))
      have c3 := HC2.out w1 b1
      clear c0 c1 c2 b1
      cases htt : isT (kN x.k) x.t with
      | false =>
        rw [htt] at hpi
        have hp0 : P = [] := by simpa using hpi
        subst hp0
        have HX := Lib.hid (hno htt)
        clear hno hbp htt hpi
        go_wp2
        go_ret2
        rw [HX.out.1, HX.out.2]
        exact ⟨rfl, HB1.out⟩
      | true =>
        rw [htt] at hpi
        have n0 : ¬ P = [] := by intro e; rw [e] at hpi; cases hpi
        have m0 : (P == []) = false := beq_eq_false_iff_ne.2 n0
        have hbp := hbp htt
        have HTT := Lib.hid htt
        clear hno htt hpi
        by_cases h5 : x.k = 5
        · rw [show kN x.k = 5 from kN5.2 h5] at hbp
          have HK5 := Lib.hid (kN5.2 h5)
          by_cases p0 : P = [59]
          · have HBP := Lib.hid (show bhd (kN x.k) x.t = [10] by rw [HK5.out, hbp, if_pos ⟨rfl, .inl p0⟩])
            clear hbp n0 m0
            subst p0
            go_wp2
            go_roundg G
            case measure => omega
            case rel => exact prrel_next HIG.out hi HBQ.out HSE.out hsn HAT.out HP.out HTT.out (HBP.out.symm) HTL.out rfl HB1.out
          have m1 : (P == [59]) = false := beq_eq_false_iff_ne.2 p0
          by_cases p1 : P = [123]
          · have HBP := Lib.hid (show bhd (kN x.k) x.t = [10] by rw [HK5.out, hbp, if_pos ⟨rfl, .inr (.inl p1)⟩])
            clear hbp n0 m0 m1 p0
            subst p1
            go_wp2
            go_roundg G
            case measure => omega
            case rel => exact prrel_next HIG.out hi HBQ.out HSE.out hsn HAT.out HP.out HTT.out (HBP.out.symm) HTL.out rfl HB1.out
          have m2 : (P == [123]) = false := beq_eq_false_iff_ne.2 p1
          by_cases p2 : P = [125]
          · have HBP := Lib.hid (show bhd (kN x.k) x.t = [10] by rw [HK5.out, hbp, if_pos ⟨rfl, .inr (.inr p2)⟩])
            clear hbp n0 m0 m1 p0 m2 p1
            subst p2
            go_wp2
            go_roundg G
            case measure => omega
            case rel => exact prrel_next HIG.out hi HBQ.out HSE.out hsn HAT.out HP.out HTT.out (HBP.out.symm) HTL.out rfl HB1.out
          have m3 : (P == [125]) = false := beq_eq_false_iff_ne.2 p2
          have HBP := Lib.hid (show bhd (kN x.k) x.t = [32] by rw [HK5.out, hbp, if_neg (fun h => h.2.elim p0 (fun h => h.elim p1 p2))])
          clear hbp
          go_wp2
          go_roundg G
          case measure => omega
          case rel => exact prrel_next HIG.out hi HBQ.out HSE.out hsn HAT.out HP.out HTT.out (HBP.out.symm) HTL.out rfl HB1.out
        · have n5 : (x.k == 5) = false := beq_eq_false_iff_ne.2 h5
          have HBP := Lib.hid (show bhd (kN x.k) x.t = [32] by rw [hbp, if_neg (fun h => h5 (kN5.1 h.1))])
          clear hbp
          go_wp2
          go_roundg G
          case measure => omega
          case rel => exact prrel_next HIG.out hi HBQ.out HSE.out hsn HAT.out HP.out HTT.out (HBP.out.symm) HTL.out rfl HB1.out
    · have hi2 : ¬ ((i : Nat) : Int) < ((l.length : Nat) : Int) := by omega
      have HX := Lib.hid (show prS l = file (bq (l.take i)) ∧ prE l = 0 by
        rw [List.take_of_length_le (by omega)] at hat ⊢
        unfold prS prE; rw [hat]; exact ⟨rfl, rfl⟩)
      clear hat hsn
      generalize file (bq (l.take i)) = S at *
      go_wp2
      go_ret2
      rw [HX.out.1, HX.out.2]
      exact ⟨rfl, HB.out⟩
end Go.Proofs.YtkobjbmjefkmgaaDoor
