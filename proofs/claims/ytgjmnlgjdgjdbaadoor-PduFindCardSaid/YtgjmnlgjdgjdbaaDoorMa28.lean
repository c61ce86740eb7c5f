/- Texts on the program and on the document, joined: OidD, Spo, OidX, OidO, PduFy. -/
import Derived.Test.YtgjmnlgjdgjdbaaDoorMa26
import Derived.Test.YtgjmnlgjdgjdbaaDoorMa11
import Derived.Test.YtgjmnlgjdgjdbaaDoorMa12
import Derived.Test.YtgjmnlgjdgjdbaaDoorMa27
import Derived.Test.YtgjmnlgjdgjdbaaDoorMa20
/- The document's own Less, walked. -/
namespace Go.Proofs.YtgjmnlgjdgjdbaaDoor
open Go.ChangeShapes Go.WideShapes Go.ChangeAt Go.RowKit K O6
set_option linter.unusedVariables false

theorem lt_at : ∀ {a b : List Nat} {i : Nat}, i < a.length → i < b.length → (∀ j, j < i → a.getD j 0 = b.getD j 0) → a.getD i 0 ≠ b.getD i 0 → O6.lt a b = decide (a.getD i 0 < b.getD i 0)
  | [], b, i, h, _, _, _ => by simp at h
  | x :: a, [], i, _, h, _, _ => by simp at h
  | x :: a, y :: b, 0, _, _, _, hn => by
    have hn' : x ≠ y := hn
    rw [O6.lt_cons, if_neg hn']; rfl
  | x :: a, y :: b, i + 1, h1, h2, hj, hn => by
    have h0 : x = y := hj 0 (by omega)
    have h3 := lt_at (a := a) (b := b) (i := i) (by simpa using h1) (by simpa using h2) (fun j h => by have := hj (j + 1) (by omega); simpa using this) (by simpa using hn)
    rw [O6.lt_cons, if_pos h0, h3]; simp
theorem lt_end : ∀ {a b : List Nat}, (∀ j, j < a.length → j < b.length → a.getD j 0 = b.getD j 0) → O6.lt a b = decide (a.length < b.length)
  | [], [], _ => rfl
  | [], y :: b, _ => by simp [O6.lt]
  | x :: a, [], _ => by simp [O6.lt]
  | x :: a, y :: b, hj => by
    have h0 : x = y := hj 0 (by simp) (by simp)
    have h3 := lt_end (a := a) (b := b) (fun j h h2 => by have := hj (j + 1) (by simpa using h) (by simpa using h2); simpa using this)
    rw [O6.lt_cons, if_pos h0, h3]; simp
def LsRel (a b : List Nat) (w : World) (g : Nat) (v9 : Value) (wr : World) : Prop :=
  ∃ i, i + g = min a.length b.length ∧ v9 = .int .i64 (i : Nat) ∧ (∀ j, j < i → a.getD j 0 = b.getD j 0) ∧ ∃ m, wr = w.drewN m
/-- Whether one text's arcs stand ahead of another's: false, if one is none's. -/
def lsZ (r s : List UInt8) : Bool := (arcs r).isSome && ((arcs s).isSome && O6.lt (arL r) (arL s))
end Go.Proofs.YtgjmnlgjdgjdbaaDoor
/- SpoilInts, and what it leaves alone: all blocks but the list's own. -/
namespace Go.Proofs.YtgjmnlgjdgjdbaaDoor
open Go.ChangeShapes Go.WideShapes Go.ChangeAt Go.RowKit K
set_option linter.unusedVariables false

/-- The block of a list. -/
def blk (ao : Option Addr) (n : Nat) : List Nat := if n = 0 then [] else match ao with | some a => [a.block] | none => []
def SkRel (w : World) (B : Nat) (T : TypeId) (ao : Option Addr) (n g : Nat) (v2 : Value) (wr : World) : Prop :=
  ∃ i, i + g = n ∧ v2 = .int .i64 (i : Nat) ∧ Room wr B T ao n ∧ Below B w wr ∧ Kp (blk ao n) w wr
/-- Another list stays. -/
theorem own_spoil {w w' : World} {B : Nat} {T : TypeId} {v : Value} {cs : List Nat} {ao : Option Addr} {n : Nat} (h : OwnI w B T v cs) (k : Kp (blk ao n) w w') (hb : ∀ x ∈ blk ao n, x < B) : OwnI w' B T v cs := by
  refine ⟨h.1, ?_⟩
  rcases h.2 with hn | ⟨g, cap, cur, h1, h2, h3, h4⟩
  · exact .inl hn
  · exact .inr ⟨g, cap, cur, h1, h2, k.heap h3 (fun hm => by have := hb g hm; omega), h4⟩
/-- A list's block, where it stood. -/
theorem blk_lt {w : World} {B : Nat} {T : TypeId} {ao : Option Addr} {n : Nat} (h : Room w B T ao n) : ∀ x ∈ blk ao n, x < w.heap.size := by
  intro x hx
  unfold blk at hx
  by_cases h0 : n = 0
  · rw [if_pos h0] at hx; simp at hx
  · rw [if_neg h0] at hx
    rcases h with h | ⟨g, C, rfl, _, hh, _⟩
    · exact absurd h h0
    · simp at hx
      subst hx
      exact lt_of_block hh
end Go.Proofs.YtgjmnlgjdgjdbaaDoor
/- The laws of oid, walked on calls that keep their word: OidReads. -/
namespace Go.Proofs.YtgjmnlgjdgjdbaaDoor
open Go.ChangeShapes Go.WideShapes Go.ChangeAt Go.RowKit K O6
set_option linter.unusedVariables false

theorem oworks_vals : enS [49, 46, 51, 46, 54, 46, 49] = [43, 6, 1] ∧ arE [49, 46, 51, 46, 54, 46, 49] = 0 ∧ enS [50, 46, 57, 57, 57, 46, 51] = [136, 55, 3] ∧ arE [50, 46, 57, 57, 57, 46, 51] = 0 := by decide +kernel
end Go.Proofs.YtgjmnlgjdgjdbaaDoor
/- slices.Compare, oid's Less, Child, walked: all calls of oid keep their word. -/
namespace Go.Proofs.YtgjmnlgjdgjdbaaDoor
open Go.ChangeShapes Go.WideShapes Go.ChangeAt Go.RowKit K O6
set_option linter.unusedVariables false

def cmpV (a b : List Nat) : Int := if O6.lt a b then -1 else if a = b then 0 else 1
theorem cmpV_lt (a b : List Nat) : decide (cmpV a b < 0) = O6.lt a b := by
  unfold cmpV
  cases h : O6.lt a b
  · rw [if_neg (by simp)]
    by_cases e : a = b
    · rw [if_pos e]; rfl
    · rw [if_neg e]; rfl
  · rw [if_pos rfl]; rfl
theorem cmpV_at {a b : List Nat} {i : Nat} (h1 : i < a.length) (h2 : i < b.length) (h : ∀ j, j < i → a.getD j 0 = b.getD j 0) (hn : a.getD i 0 ≠ b.getD i 0) : cmpV a b = Lib.compareInt (a.getD i 0 : Nat) (b.getD i 0 : Nat) := by
  unfold cmpV Lib.compareInt
  rw [lt_at h1 h2 h hn, if_neg (fun e : a = b => hn (by rw [e]))]
  by_cases hl : a.getD i 0 < b.getD i 0
  · rw [if_pos (by rw [decide_eq_true_eq]; exact hl), if_pos (by omega)]
  · rw [if_neg (by rw [decide_eq_true_eq]; exact hl), if_neg (by omega), if_pos (by omega)]
theorem cmpV_long {a b : List Nat} (hl : b.length < a.length) (h : ∀ j, j < b.length → a.getD j 0 = b.getD j 0) : cmpV a b = 1 := by
  unfold cmpV
  rw [lt_end (fun j _ h2 => h j h2), if_neg (by rw [decide_eq_true_eq]; omega), if_neg (fun e : a = b => by rw [e] at hl; omega)]
theorem cmpV_short {a b : List Nat} (hl : a.length < b.length) (h : ∀ j, j < a.length → a.getD j 0 = b.getD j 0) : cmpV a b = -1 := by
  unfold cmpV
  rw [lt_end (fun j h1 _ => h j h1), if_pos (by rw [decide_eq_true_eq]; exact hl)]
theorem cmpV_same {a b : List Nat} (hl : a.length = b.length) (h : ∀ j, j < a.length → a.getD j 0 = b.getD j 0) : cmpV a b = 0 := by
  unfold cmpV
  rw [lt_end (fun j h1 _ => h j h1), if_neg (by rw [decide_eq_true_eq]; omega), if_pos (same_of hl h)]
def CmRel (a b : List Nat) (w : World) (g : Nat) (v : Value) (wr : World) : Prop :=
  ∃ i, i + g = a.length ∧ i ≤ b.length ∧ v = .int .i64 (i : Nat) ∧ (∀ j, j < i → a.getD j 0 = b.getD j 0) ∧ wr = w
set_option maxRecDepth 100000 in
set_option maxHeartbeats 2000000 in
theorem child_walk (s : List UInt8) (hs : s.length ≤ 1000000) (x : Int) (x0 : -9223372036854775808 ≤ x) (x1 : x ≤ 9223372036854775807) (w : World) (T : Tabs w) :
    Calls Tryd.prog 8 #[.string (bs s), .int .i64 x] w fun e w' => e = .returned (.tuple #[.string (bs (chS s x)), .int .i64 (chE s x : Nat)]) ∧ Below w.heap.size w w' := by
  have HA := Lib.hid (arcs_walk s hs w T)
  have HT := Lib.hid T
  have HI := Lib.hid (fun w1 => isArc_walk x w1)
  unfold ArPost at HA
  clear T
  cases hx : arcs s with
  | none =>
    rw [(ch_none hx x).1, (ch_none hx x).2]
    rw [(ar_none hx).1, (ar_none hx).2] at HA
    clear hx
    go_enter Tryd.func8, Tryd.ntmps8
    go_wp2_with fail
    refine HA.out.mono ?_
    rintro e w1 ⟨v, rfl, ho, d1⟩
    obtain ⟨ao, cap, rfl, _⟩ := ho.form
    clear ho
    go_wp2
    go_ret2
    exact ⟨rfl, d1⟩
  | some l =>
    obtain ⟨hia, _⟩ := (arcs_iff s l).1 hx
    have hlen := isArcs_len hia
    rw [(ar_some hx).1, (ar_some hx).2] at HA
    cases hr : inR x
    · rw [(ch_far hx hr).1, (ch_far hx hr).2]
      rw [hr] at HI
      clear hx hr hia
      go_enter Tryd.func8, Tryd.ntmps8
      go_wp2_with fail
      refine HA.out.mono ?_
      rintro e w1 ⟨v, rfl, ho, d1⟩
      obtain ⟨ao, cap, rfl, _⟩ := ho.form
      clear ho
      go_wp2_with fail
      refine (HI.out w1).mono ?_
      rintro e w2 ⟨rfl, rfl⟩
      go_wp2
      go_ret2
      exact ⟨rfl, d1⟩
    · have hxr : 0 ≤ x ∧ x ≤ 4294967295 := by
        unfold inR at hr
        rw [Bool.and_eq_true, decide_eq_true_eq, decide_eq_true_eq] at hr
        exact hr
      rw [hr] at HI
      obtain ⟨X, rfl⟩ := Int.eq_ofNat_of_zero_le hxr.1
      have hch := ch_some hx hr
      rw [Int.toNat_natCast] at hch
      have HCH := Lib.hid hch
      have hX0 : (0 : Int) ≤ (X : Nat) := by omega
      have hX1 : ((X : Nat) : Int) ≤ 4294967295 := by omega
      clear hx hr hia hch hxr
      obtain ⟨i0, hi, hz0, hz1, hz2⟩ := info_of int_info6
      go_enter Tryd.func8, Tryd.ntmps8
      go_wp2_with fail
      refine HA.out.mono ?_
      rintro e w1 ⟨v, rfl, ho, d1⟩
      obtain ⟨ao, cap, rfl, _⟩ := ho.form
      have HO := Lib.hid ho
      clear ho
      go_wp2_with fail
      refine (HI.out w1).mono ?_
      rintro e w2 ⟨rfl, rfl⟩
      have ho := HO.out
      clear HO
      go_wp2_with (at_builtin; refine wpList_append_own _ rfl _ _ 38 rfl w.heap.size 3 i0 (.int .i64 0) 1 8 Tryd.underlying38 hi hz0 hz1 hz2 rfl (by decide) _ _ _ rfl (World.ownsRow.alloc ho _) ⟨w1.heap.size, 0, none⟩ 1 1 [.int .i64 (X : Nat)] rfl rfl ?c1 ?c2 ?c3 ?c4 ?c5 ?_)
      case c1 =>
        intro j u hj
        match j, hj with
        | 0, hj => simp at hj; subst hj; simp [Addr.add]
      case c2 => intro u hu; simp at hu; subst hu; rfl
      case c3 => unfold maxLen; omega
      case c4 => omega
      case c5 => have := d1.size; simp; omega
      intro v3 w3 hown3 hgrow3 _
      have h3 : OwnI w3 w.heap.size 3 v3 (l ++ [X]) := OwnI.put hown3
      have b3 := (d1.alloc d1.size (.cells #[.int .i64 (X : Nat)] 3)).grown hgrow3 (by have := d1.size; simp; omega) (fun k hk => (World.ownsRow.lt ho k hk).1)
      clear hown3 hgrow3 ho d1
      obtain ⟨ao3, cap3, rfl, hz⟩ := RdZ.own h3
      have hT := text_walk ao3 (l ++ [X]).length cap3 (fz (l ++ [X])) w3 (l ++ [X]) (by rw [List.length_append]; simp; omega) hz (fun h => ⟨rfl, by rw [← isZ_fz]; exact h, fun i _ => rfl⟩) (HT.out.below b3)
      rw [isZ_fz] at hT
      have hl1 : (l ++ [X]).length = l.length + 1 := by simp
      rw [hl1] at hT ⊢
      have HTT := Lib.hid hT
      clear hT hz h3 hl1
      cases hia : isArcs (l ++ [X])
      all_goals
        rw [hia] at HTT HCH
        simp only [Bool.false_eq_true, if_false, if_true] at HTT HCH
        clear hia
        go_wp2_with fail
        refine HTT.out.mono ?_
        rintro e w4 ⟨rfl, d4⟩
        go_wp2
        go_ret2
        rw [HCH.out.1, HCH.out.2]
        exact ⟨rfl, b3.trans (d4.mono b3.size)⟩
end Go.Proofs.YtgjmnlgjdgjdbaaDoor
/- The laws of units at PduFind's seat: works, small, walked. -/
namespace Go.Proofs.YtgjmnlgjdgjdbaaDoor
open Go.ChangeShapes Go.WideShapes Go.ChangeAt Go.RowKit K P1 B5
open D8 (Bd Un lst deB deL deU)
set_option linter.unusedVariables false

theorem works_vals8 : eS ⟨167, 1, 0, 0, []⟩ = [167, 11, 2, 1, 1, 2, 1, 0, 2, 1, 0, 48, 0] ∧ eE ⟨167, 1, 0, 0, []⟩ = 0 := by decide +kernel
set_option maxRecDepth 100000 in
theorem works8_walk (w : World) (T : Tp w) : Calls Tryd.prog 4 #[] w fun e w' => e = .returned (.bool true) ∧ Below w.heap.size w w' := by
  obtain ⟨v1, v2⟩ := works_vals8
  have hE := fun w1 (h : Tp w1) => encode8_walk ⟨167, 1, 0, 0, []⟩ none 0 (by simp) (fun x hx => by cases hx) w1 h (.inl rfl)
  rw [v1, v2] at hE
  simp only [List.length_nil] at hE
  have HE := Lib.hid hE
  have HT := Lib.hid T
  clear hE v1 v2 T
  go_enter Tryd.func4, Tryd.ntmps4
  go_wp2_with fail
  refine (HE.out _ HT.out).mono ?_
  rintro e w1 ⟨rfl, b1⟩
  go_wp2
  go_ret
  exact ⟨rfl, b1⟩
def smX (x : Bd) : Bool := decide (x.s.length ≤ 3000) && decide (x.o.length ≤ 2000)
def smB (xs : List Bd) : Bool := ((decide (xs.length ≤ 40) || decide (4096 < xs.length)) && decide (xs.length ≤ 8192)) && xs.all smX
theorem sm_take {xs : List Bd} {i : Nat} (hi : i < xs.length) : (xs.take (i + 1)).all smX = ((xs.take i).all smX && smX (xs.getD i nob)) := by
  rw [List.take_succ_eq_append_getElem hi, List.all_append, List.getD_eq_getElem?_getD, List.getElem?_eq_getElem hi]
  simp
theorem sm_not {xs : List Bd} {i : Nat} (hi : i < xs.length) (h : smX (xs.getD i nob) = false) : xs.all smX = false := by
  rw [List.getD_eq_getElem?_getD, List.getElem?_eq_getElem hi] at h
  rw [List.all_eq_false]
  exact ⟨_, List.getElem_mem hi, by simpa using h⟩
theorem sm_facts {xs : List Bd} (h : smB xs = true) : (xs.length ≤ 40 ∨ 4096 < xs.length) ∧ xs.length ≤ 8192 ∧ ∀ x ∈ xs, x.s.length ≤ 3000 ∧ x.o.length ≤ 2000 := by
  unfold smB smX at h
  simp only [Bool.and_eq_true, Bool.or_eq_true, decide_eq_true_eq, List.all_eq_true] at h
  exact ⟨h.1.1, h.1.2, h.2⟩
def SmlRel (xs : List Bd) (w : World) (g : Nat) (v : Value) (wr : World) : Prop :=
  ∃ i : Nat, i + g = xs.length ∧ v = .int .i64 (i : Nat) ∧ (xs.take i).all smX = true ∧ Below w.heap.size w wr
set_option maxRecDepth 100000 in
set_option maxHeartbeats 1000000 in
theorem small_walk (xs : List Bd) (ao : Option Addr) (cap : Nat) (hl : xs.length ≤ 140737488351232) (hx : Lim xs) (w : World) (hr : RdB w ao xs) :
    Calls Tryd.prog 5 #[.slice ao xs.length cap] w fun e w' => e = .returned (.bool (smB xs)) ∧ Below w.heap.size w w' := by
  have hways : (((40 : Int) < ((xs.length : Nat) : Int) ∧ ((xs.length : Nat) : Int) ≤ 4096) ∨ (((40 : Int) < ((xs.length : Nat) : Int) ∧ (4096 : Int) < ((xs.length : Nat) : Int)) ∧ (8192 : Int) < ((xs.length : Nat) : Int))) ∨ ((((xs.length : Nat) : Int) ≤ 40 ∧ ((xs.length : Nat) : Int) ≤ 8192) ∨ (((40 : Int) < ((xs.length : Nat) : Int) ∧ (4096 : Int) < ((xs.length : Nat) : Int)) ∧ ((xs.length : Nat) : Int) ≤ 8192)) := by omega
  rcases hways with hbad | hgood
  · have e : smB xs = false := by
      have : ((decide (xs.length ≤ 40) || decide (4096 < xs.length)) && decide (xs.length ≤ 8192)) = false := by
        rw [Bool.and_eq_false_iff, Bool.or_eq_false_iff, decide_eq_false_iff_not, decide_eq_false_iff_not, decide_eq_false_iff_not]
        omega
      unfold smB; rw [this]; rfl
    rw [e]
    clear e hr hx
    rcases hbad with ⟨h1, h2⟩ | ⟨⟨h1, h2⟩, h3⟩
    all_goals
      go_enter Tryd.func5, Tryd.ntmps5
      go_wp2
      go_ret
      exact ⟨rfl, Below.refl _ _⟩
  · have e : smB xs = xs.all smX := by
      have : ((decide (xs.length ≤ 40) || decide (4096 < xs.length)) && decide (xs.length ≤ 8192)) = true := by
        rw [Bool.and_eq_true, Bool.or_eq_true, decide_eq_true_eq, decide_eq_true_eq, decide_eq_true_eq]
        omega
      unfold smB; rw [this]; rfl
    rw [e]
    clear e
    have hfin : Calls Tryd.prog 5 #[.slice ao xs.length cap] w fun e w' => e = .returned (.bool (xs.all smX)) ∧ Below w.heap.size w w' := by
      rcases hgood with ⟨h1, h2⟩ | ⟨⟨h1, h2⟩, h3⟩
      all_goals
        go_enter Tryd.func5, Tryd.ntmps5
        go_wp2_with fail
        go_loopg [3] xs.length (fun g v wr => SmlRel xs w g v wr)
        case atStart => exact ⟨0, by omega, rfl, rfl, Below.refl _ _⟩
        case round =>
          obtain ⟨i, hi, rfl, hall, hb⟩ := hrel
          cases gk with
          | zero =>
            obtain rfl : i = xs.length := by omega
            rw [List.take_length] at hall
            have HALL := Lib.hid hall
            clear hall
            go_wp2
            go_ret
            exact ⟨by rw [HALL.out]; rfl, hb⟩
          | succ g =>
            have hlt : i < xs.length := by omega
            have HTK := Lib.hid (sm_take hlt)
            have HNO := Lib.hid (fun h => sm_not (xs := xs) hlt h)
            obtain ⟨x, hxe⟩ : ∃ x, xs.getD i nob = x := ⟨_, rfl⟩
            obtain ⟨b, off, rfl, hbl, c0, c1, c2, c3⟩ := (hr.below hb).at hlt hxe
            rw [hxe] at HTK HNO
            rw [hall] at HTK
            clear hxe hall
            by_cases s1 : x.s.length ≤ 3000
            · have s1' : ((x.s.length : Nat) : Int) ≤ 3000 := by omega
              by_cases s2 : x.o.length ≤ 2000
              · have s2' : ((x.o.length : Nat) : Int) ≤ 2000 := by omega
                have HS := Lib.hid (show smX x = true by unfold smX; rw [decide_eq_true s1, decide_eq_true s2]; rfl)
                clear s1 s2
                go_wp2
                go_roundg g
                case measure => omega
                case rel => exact ⟨i + 1, by omega, by simp, by rw [HTK.out, HS.out]; rfl, hb⟩
              · have s2' : (2000 : Int) < ((x.o.length : Nat) : Int) := by omega
                have HS := Lib.hid (HNO.out (show smX x = false by unfold smX; rw [decide_eq_false s2, Bool.and_false]))
                clear s1 s2
                go_wp2
                go_ret
                exact ⟨by rw [HS.out]; rfl, hb⟩
            · have s1' : (3000 : Int) < ((x.s.length : Nat) : Int) := by omega
              have HS := Lib.hid (HNO.out (show smX x = false by unfold smX; rw [decide_eq_false s1, Bool.false_and]))
              clear s1
              go_wp2
              go_ret
              exact ⟨by rw [HS.out]; rfl, hb⟩
    exact hfin
end Go.Proofs.YtgjmnlgjdgjdbaaDoor
