/- The laws of structured data, on calls that keep their word: works, small. -/
import Derived.Test.YtkpcfbadhoiigaaDoorQuoI
namespace Go.Proofs.YtkpcfbadhoiigaaDoor
open Go.ChangeShapes Go.WideShapes Go.ChangeAt Go.RowKit K Q10 U4
set_option linter.unusedVariables false

/-- Lists that no memory is too small for. -/
def Bnds (l : List El) : Prop := l.length * 40 ≤ 140737488351232 ∧ ∀ x ∈ l, x.id.length ≤ 140737488355327 ∧ x.ps.length * 32 ≤ 140737488351232 ∧ ∀ p ∈ x.ps, p.n.length ≤ 140737488351232 ∧ p.v.length ≤ 140737488351232
/-- What Parse hands back, as a caller reads it. -/
def PaQ (l : List UInt8) (w : World) (e : Ending) (w' : World) : Prop :=
  ∃ ao cap, e = .returned (.tuple #[.slice ao (paL l).length cap, .string (bs (paR l)), .int .i64 (paE l : Nat)]) ∧ RdE w' ao (paL l) ∧ Below w.heap.size w w'
/-! ### What the program's calls are known to answer, in any world of which I -/
def Keeps (I : World → Prop) : Prop := ∀ a b, I a → Below a.heap.size a b → I b
def HIsName (I : World → Prop) : Prop := ∀ (l : List UInt8) (w : World), l.length ≤ 10000 → I w → Calls Tryd.prog 12 #[.string (bs l)] w fun e w' => e = .returned (.bool (isN l)) ∧ Below w.heap.size w w'
def HEscape (I : World → Prop) : Prop := ∀ (l : List UInt8) (w : World), l.length ≤ 10000 → I w → Calls Tryd.prog 14 #[.string (bs l)] w fun e w' => e = .returned (.string (bs (esc l))) ∧ Below w.heap.size w w'
def HCheck (I : World → Prop) : Prop := ∀ (l : List El) (ao : Option Addr) (cap : Nat) (w : World), Bnds l → LimL l → I w → RdE w ao l → Calls Tryd.prog 22 #[.slice ao l.length cap] w fun e w' => e = .returned (.int .i64 (ckE l : Nat)) ∧ Below w.heap.size w w'
def HPrint (I : World → Prop) : Prop := ∀ (l : List El) (ao : Option Addr) (cap : Nat) (w : World), Bnds l → LimL l → (okL l = true → (elsT l).length ≤ 10000000) → I w → RdE w ao l → Calls Tryd.prog 18 #[.slice ao l.length cap] w fun e w' => e = .returned (.tuple #[.string (bs (prS l)), .int .i64 (prE l : Nat)]) ∧ Below w.heap.size w w'
def HParse (I : World → Prop) : Prop := ∀ (l : List UInt8) (w : World), l.length ≤ 10000000 → I w → Calls Tryd.prog 9 #[.string (bs l)] w (PaQ l w)
def HGet (I : World → Prop) : Prop := ∀ (l : List El) (ao : Option Addr) (cap : Nat) (id n : List UInt8) (w : World), Bnds l → I w → RdE w ao l → Calls Tryd.prog 20 #[.slice ao l.length cap, .string (bs id), .string (bs n)] w fun e w' => e = .returned (.tuple #[.string (bs (gtS l id n)), .bool (gtB l id n)]) ∧ Below w.heap.size w w'
def HSame (I : World → Prop) : Prop := ∀ (a b : List El) (ao bo : Option Addr) (ca cb : Nat) (w : World), Bnds a → Bnds b → I w → RdE w ao a → RdE w bo b → Calls Tryd.prog 24 #[.slice ao a.length ca, .slice bo b.length cb] w fun e w' => e = .returned (.bool (saE a b)) ∧ Below w.heap.size w w'
def exT : List UInt8 := [91, 97, 32, 98, 61, 34, 99, 92, 93, 34, 93, 120]
def exL : List El := [⟨[97], [⟨[98], [99, 93]⟩]⟩]
theorem ex_pa : pa exT = some (exL, [120]) := by decide +kernel
theorem ex_bnds : Bnds exL := by
  refine ⟨by simp [exL], fun x hx => ?_⟩
  simp [exL] at hx
  subst hx
  refine ⟨by simp, by simp, fun p hp => ?_⟩
  simp at hp
  subst hp
  exact ⟨by simp, by simp⟩
theorem ex_read (w : World) : RdE ((w.alloc (.cells #[.string { data := #[98] }, .string { data := #[99, 93] }] 47)).alloc (.cells #[.string { data := #[97] }, .slice (some ⟨w.heap.size, 0, none⟩) 1 1] 45)) (some ⟨w.heap.size + 1, 0, none⟩) exL := by
  have h1 := rowNew (w.alloc (.cells #[.string { data := #[98] }, .string { data := #[99, 93] }] 47)) (.cells #[.string { data := #[97] }, .slice (some ⟨w.heap.size, 0, none⟩) 1 1] 45)
  rw [show (w.alloc (.cells #[.string { data := #[98] }, .string { data := #[99, 93] }] 47)).heap.size = w.heap.size + 1 by simp] at h1
  have h0 := ((alloc_in' (w.alloc (.cells #[.string { data := #[98] }, .string { data := #[99, 93] }] 47)) (.cells #[.string { data := #[97] }, .slice (some ⟨w.heap.size, 0, none⟩) 1 1] 45)).block w.heap.size (by simp)).trans (rowNew w (.cells #[.string { data := #[98] }, .string { data := #[99, 93] }] 47))
  refine ⟨[(⟨[97], [⟨[98], [99, 93]⟩]⟩, ⟨some ⟨w.heap.size, 0, none⟩, 1⟩)], rfl, .inr ⟨w.heap.size + 1, 0, rfl, lt_of_block h1, fun i hi => ?_⟩, fun z hz => ?_⟩
  · obtain rfl : i = 0 := by simpa using hi
    exact ⟨cellRow h1 0, cellRow h1 1⟩
  · simp at hz
    subst hz
    refine .inr ⟨w.heap.size, 0, rfl, lt_of_block h0, fun i hi => ?_⟩
    obtain rfl : i = 0 := by simpa using hi
    exact ⟨cellRow h0 0, cellRow h0 1⟩
set_option maxRecDepth 100000 in
set_option maxHeartbeats 2000000 in
theorem works10_walk (I : World → Prop) (KK : Keeps I) (KP : HParse I) (KS : HSame I) (w : World) (hw : I w) :
    Calls Tryd.prog 8 #[] w fun e w' => e = .returned (.bool true) ∧ Below w.heap.size w w' := by
  have hP := KP exT w (by simp [exT]) hw
  unfold PaQ at hP
  rw [(pa_of ex_pa).1, (pa_of ex_pa).2.1, (pa_of ex_pa).2.2] at hP
  have HP := Lib.hid hP
  have HS := Lib.hid (fun ao bo ca cb w1 h r s => KS exL exL ao bo ca cb w1 ex_bnds ex_bnds h r s)
  have HK := Lib.hid (fun w1 (b : Below w.heap.size w w1) => KK w w1 hw b)
  have ht : bs exT = ({ data := #[91, 97, 32, 98, 61, 34, 99, 92, 93, 34, 93, 120] } : ByteArray) := rfl
  rw [ht] at HP
  clear hP ht KK KP KS
  go_enter Tryd.func8, Tryd.ntmps8
  go_wp2_with fail
  refine HP.out.mono ?_
  rintro e w1 ⟨ao, cap, rfl, hr1, b1⟩
  have hx : bs [120] = ({ data := #[120] } : ByteArray) := rfl
  rw [hx]
  go_wp2_with fail
  have a1 := alloc_in' w1 (.cells #[.string { data := #[98] }, .string { data := #[99, 93] }] 47)
  have b2 := b1.trans (a1.mono b1.size)
  have a2 := alloc_in' (w1.alloc (.cells #[.string { data := #[98] }, .string { data := #[99, 93] }] 47)) (.cells #[.string { data := #[97] }, .slice (some ⟨w1.heap.size, 0, none⟩) 1 1] 45)
  have b3 := b2.trans (a2.mono b2.size)
  have hr3 := (hr1.below a1).below a2
  refine (HS.out ao _ cap 1 _ (HK.out _ b3) hr3 (ex_read w1)).mono ?_
  rintro e w2 ⟨rfl, d2⟩
  have b4 := b3.trans (d2.mono b3.size)
  have hsame : saE exL exL = true := saE_yes rfl
  rw [hsame]
  go_wp2
  go_ret
  exact ⟨rfl, b4⟩
/-! ### small -/
def smP (p : Pm) : Bool := decide (p.v.length ≤ 1000) && decide (p.n.length ≤ 100)
def smE (x : El) : Bool := decide (x.ps.length ≤ 20) && (decide (x.id.length ≤ 100) && x.ps.all smP)
def smQ (l : List El) : Bool := !((decide (20 < l.length) && decide (l.length ≤ 4096)) || decide (8192 < l.length)) && (l.take 40).all smE
theorem smE_no {l : List El} {i : Nat} (h : i < l.length) (h4 : i < 40) (hs : smE (l.getD i noe) = false) : smQ l = false := by
  have ha : (l.take 40).all smE = false := by
    cases he : (l.take 40).all smE
    · rfl
    · have hm : l.getD i noe ∈ l.take 40 := by
        have hi : i < (l.take 40).length := by rw [List.length_take]; omega
        have e : (l.take 40).getD i noe = l.getD i noe := by
          rw [List.getD_eq_getElem?_getD, List.getD_eq_getElem?_getD, List.getElem?_take_of_lt h4]
        rw [← e]; exact getD_mem hi
      have := List.all_eq_true.1 he _ hm
      rw [hs] at this; cases this
  unfold smQ
  rw [ha]; simp
theorem smE_step (l : List El) (i : Nat) (h : i < l.length) : (l.take (i + 1)).all smE = ((l.take i).all smE && smE (l.getD i noe)) := by
  rw [takeD l i noe h, List.all_append]; simp
theorem smP_step (l : List Pm) (i : Nat) (h : i < l.length) : (l.take (i + 1)).all smP = ((l.take i).all smP && smP (l.getD i nop)) := by
  rw [takeD l i nop h, List.all_append]; simp
theorem smQ_yes {l : List El} {i : Nat} (h1 : ¬ ((20 < l.length ∧ l.length ≤ 4096) ∨ 8192 < l.length)) (h : (l.take i).all smE = true) (hi : l.length ≤ i ∨ 40 ≤ i) : smQ l = true := by
  have ha : (l.take 40).all smE = true := by
    rcases hi with hi | hi
    · rw [List.take_of_length_le hi] at h
      exact List.all_eq_true.2 fun x hx => List.all_eq_true.1 h x (List.mem_of_mem_take hx)
    · exact List.all_eq_true.2 fun x hx => by
        refine List.all_eq_true.1 h x ?_
        have e : l.take 40 = (l.take i).take 40 := by rw [List.take_take, Nat.min_eq_left hi]
        rw [e] at hx
        exact List.mem_of_mem_take hx
  have hb : ((decide (20 < l.length) && decide (l.length ≤ 4096)) || decide (8192 < l.length)) = false := by
    cases hx : ((decide (20 < l.length) && decide (l.length ≤ 4096)) || decide (8192 < l.length))
    · rfl
    · exfalso; apply h1
      simpa only [Bool.or_eq_true, Bool.and_eq_true, decide_eq_true_eq] using hx
  unfold smQ
  rw [ha, hb]; rfl
theorem smQ_long {l : List El} (h1 : (20 < l.length ∧ l.length ≤ 4096) ∨ 8192 < l.length) : smQ l = false := by
  have hb : ((decide (20 < l.length) && decide (l.length ≤ 4096)) || decide (8192 < l.length)) = true := by
    simpa only [Bool.or_eq_true, Bool.and_eq_true, decide_eq_true_eq] using h1
  unfold smQ
  rw [hb]; rfl
def SlRel (l : List El) (w : World) (g : Nat) (v3 : Value) (wr : World) : Prop :=
  ∃ i, i + g = l.length ∧ i ≤ 40 ∧ (l.take i).all smE = true ∧ v3 = .int .i64 (i : Nat) ∧ Dr w wr
def SmRel10 (x : El) (w : World) (g : Nat) (v4 : Value) (wr : World) : Prop :=
  ∃ k, k + g = x.ps.length ∧ (x.ps.take k).all smP = true ∧ v4 = .int .i64 (k : Nat) ∧ Dr w wr
set_option maxRecDepth 100000 in
set_option maxHeartbeats 4000000 in
theorem small10_walk (l : List El) (ao : Option Addr) (cap : Nat) (hB : Bnds l) (w : World) (hr : RdE w ao l) :
    Calls Tryd.prog 16 #[.slice ao l.length cap] w fun e w' => e = .returned (.bool (smQ l)) ∧ Dr w w' := by
  obtain ⟨hn40, hx⟩ := hB
  have hn : l.length ≤ 140737488351232 := by omega
  have HX := Lib.hid hx
  clear hn40
  have HR := Lib.hid (fun w1 (d : Dr w w1) => hr.dr d)
  clear hx hr
  by_cases h1 : (20 < l.length ∧ l.length ≤ 4096) ∨ 8192 < l.length
  · have HQ := Lib.hid (smQ_long h1)
    rcases h1 with ⟨h2, h3⟩ | h2
    · have h4 : (20 : Int) < (l.length : Nat) := by omega
      have h5 : ((l.length : Nat) : Int) ≤ 4096 := by omega
      clear h2 h3
      go_enter Tryd.func16, Tryd.ntmps16
      go_wp2
      go_ret
      rw [HQ.out]
      exact ⟨rfl, Dr.refl w⟩
    · have h4 : (20 : Int) < (l.length : Nat) := by omega
      have h5 : ¬ ((l.length : Nat) : Int) ≤ 4096 := by omega
      have h6 : (8192 : Int) < (l.length : Nat) := by omega
      clear h2
      go_enter Tryd.func16, Tryd.ntmps16
      go_wp2
      go_ret
      rw [HQ.out]
      exact ⟨rfl, Dr.refl w⟩
  have HY := Lib.hid (fun i h hi => smQ_yes (i := i) h1 h hi)
  have h6 : ¬ (8192 : Int) < (l.length : Nat) := by omega
  have hc : (¬ (20 : Int) < (l.length : Nat)) ∨ ((20 : Int) < (l.length : Nat) ∧ ¬ ((l.length : Nat) : Int) ≤ 4096) := by omega
  clear h1
  go_enter Tryd.func16, Tryd.ntmps16
  rcases hc with h4 | ⟨h4, h5⟩
  · have hne : True := trivial
    go_wp2_with fail
    go_loopg [3] l.length (fun g v3 wr => SlRel l w g v3 wr)
    case atStart => exact ⟨0, by omega, by omega, rfl, rfl, Dr.refl w⟩
    case round =>
      obtain ⟨i, hg, hi40, ha, rfl, hd⟩ := hrel
      have HG := Lib.hid hg
      have HA := Lib.hid ha
      have HD := Lib.hid hd
      clear hg ha hd h4 hne
      by_cases hlt : i < l.length
      rotate_left
      · have hp : l.length ≤ i := by omega
        have HN := Lib.hid (HY.out i HA.out (.inl hp))
        go_wp2
        go_ret
        rw [HN.out]
        exact ⟨rfl, HD.out⟩
      by_cases h40 : i < 40
      rotate_left
      · have hp : 40 ≤ i := by omega
        have hp2 : ¬ ((i : Nat) : Int) < 40 := by omega
        have HN := Lib.hid (HY.out i HA.out (.inr hp))
        go_wp2
        go_ret
        rw [HN.out]
        exact ⟨rfl, HD.out⟩
      have hp2 : ((i : Nat) : Int) < 40 := by omega
      obtain ⟨x, hx⟩ : ∃ x, l.getD i noe = x := ⟨_, rfl⟩
      obtain ⟨q1, q2', q3⟩ := HX.out x (by rw [← hx]; exact getD_mem hlt)
      have q2 : x.ps.length ≤ 140737488351232 := by omega
      clear q2'
      have HQ3 := Lib.hid q3
      obtain ⟨c, off, po, pc, rfl, hc, c0, c1, hrp⟩ := (HR.out _ HD.out).at hlt hx
      have HNO := Lib.hid (fun h : smE x = false => smE_no hlt h40 (by rw [hx]; exact h))
      have HST := Lib.hid (smE_step l i hlt)
      rw [hx] at HST
      have HSE := Lib.hid (show smE x = (decide (x.ps.length ≤ 20) && (decide (x.id.length ≤ 100) && x.ps.all smP)) from rfl)
      have HRP := Lib.hid (fun w1 (d : Dr wr w1) => hrp.dr d)
      have HC1 := Lib.hid (fun w1 (d : Dr wr w1) => show w1.cell? ⟨c, off + i * 2 + 1, none⟩ = some (.slice po x.ps.length pc) by obtain ⟨m, rfl⟩ := d; exact c1)
      clear hx hrp q3
      by_cases hps : x.ps.length ≤ 20
      rotate_left
      · have HN := Lib.hid (HNO.out (by rw [HSE.out]; simp [hps]))
        have e1 : (20 : Int) < (x.ps.length : Nat) := by omega
        clear hps
        go_wp2_with fail
        go_ret
        rw [HN.out]
        exact ⟨rfl, HD.out⟩
      by_cases hidl : x.id.length ≤ 100
      rotate_left
      · have HN := Lib.hid (HNO.out (by rw [HSE.out]; simp [hidl]))
        have e1 : ¬ (20 : Int) < (x.ps.length : Nat) := by omega
        have e2 : (100 : Int) < (x.id.length : Nat) := by omega
        clear hps hidl
        go_wp2_with fail
        go_ret
        rw [HN.out]
        exact ⟨rfl, HD.out⟩
      have e1 : ¬ (20 : Int) < (x.ps.length : Nat) := by omega
      have e2 : ¬ (100 : Int) < (x.id.length : Nat) := by omega
      have HPS := Lib.hid hps
      have HIDL := Lib.hid hidl
      clear hps hidl
      go_wp2_with fail
      clear c0 c1 e1 e2
      go_loopg [4] x.ps.length (fun g v4 wx => SmRel10 x wr g v4 wx)
      case atStart => exact ⟨0, by omega, rfl, rfl, Dr.refl wr⟩
      case round =>
        obtain ⟨k, hk, hka, rfl, hd2⟩ := hrel
        have HK := Lib.hid hk
        have HKA := Lib.hid hka
        have HD2 := Lib.hid hd2
        have c1 := HC1.out _ hd2
        have hps20 : x.ps.length ≤ 20 := HPS.out
        clear hk hka hd2
        by_cases hkl : k < x.ps.length
        rotate_left
        · have hp : x.ps.length ≤ k := by omega
          have HN := Lib.hid (show (l.take (i + 1)).all smE = true by
            have hall : x.ps.all smP = true := by have := HKA.out; rw [List.take_of_length_le hp] at this; exact this
            rw [HST.out, HA.out, HSE.out, hall]; simp [HPS.out, HIDL.out])
          go_wp2
          go_roundg (l.length - (i + 1))
          case measure => have := HG.out; omega
          case rel => exact ⟨i + 1, by omega, by omega, HN.out, by simp, HD.out.trans HD2.out⟩
        · obtain ⟨cp, op, rfl, hcp, hpp⟩ := (HRP.out _ HD2.out).at (by omega)
          obtain ⟨p0, p1⟩ := hpp k hkl
          obtain ⟨r1, r2⟩ := HQ3.out _ (getD_mem (d := nop) hkl)
          have HPT := Lib.hid (smP_step x.ps k hkl)
          have HPN := Lib.hid (fun h : smP (x.ps.getD k nop) = false => HNO.out (by
            have hall : x.ps.all smP = false := by
              cases he : x.ps.all smP
              · rfl
              · have := List.all_eq_true.1 he _ (getD_mem (d := nop) hkl)
                rw [h] at this; cases this
            rw [HSE.out, hall]; simp))
          have HPE := Lib.hid (show smP (x.ps.getD k nop) = (decide ((x.ps.getD k nop).v.length ≤ 1000) && decide ((x.ps.getD k nop).n.length ≤ 100)) from rfl)
          clear hpp
          generalize x.ps.getD k nop = P at *
          by_cases hv : P.v.length ≤ 1000
          rotate_left
          · have HN := Lib.hid (HPN.out (by rw [HPE.out]; simp [hv]))
            have e1 : (1000 : Int) < (P.v.length : Nat) := by omega
            clear hv
            go_wp2_with fail
            go_ret
            rw [HN.out]
            exact ⟨rfl, (HD.out.trans HD2.out)⟩
          by_cases hnl : P.n.length ≤ 100
          rotate_left
          · have HN := Lib.hid (HPN.out (by rw [HPE.out]; simp [hnl]))
            have e1 : ¬ (1000 : Int) < (P.v.length : Nat) := by omega
            have e2 : (100 : Int) < (P.n.length : Nat) := by omega
            clear hv hnl
            go_wp2_with fail
            go_ret
            rw [HN.out]
            exact ⟨rfl, (HD.out.trans HD2.out)⟩
          have HN := Lib.hid (show (x.ps.take (k + 1)).all smP = true by rw [HPT.out, HKA.out, HPE.out]; simp [hv, hnl])
          have e1 : ¬ (1000 : Int) < (P.v.length : Nat) := by omega
          have e2 : ¬ (100 : Int) < (P.n.length : Nat) := by omega
          clear hv hnl
          go_wp2_with fail
          go_roundg (x.ps.length - (k + 1))
          case measure => have := HK.out; omega
          case rel => exact ⟨k + 1, by omega, HN.out, by simp, HD2.out⟩
  · have hne : True := trivial
    go_wp2_with fail
    go_loopg [3] l.length (fun g v3 wr => SlRel l w g v3 wr)
    case atStart => exact ⟨0, by omega, by omega, rfl, rfl, Dr.refl w⟩
    case round =>
      obtain ⟨i, hg, hi40, ha, rfl, hd⟩ := hrel
      have HG := Lib.hid hg
      have HA := Lib.hid ha
      have HD := Lib.hid hd
      clear hg ha hd h4 h5 hne
      by_cases hlt : i < l.length
      rotate_left
      · have hp : l.length ≤ i := by omega
        have HN := Lib.hid (HY.out i HA.out (.inl hp))
        go_wp2
        go_ret
        rw [HN.out]
        exact ⟨rfl, HD.out⟩
      by_cases h40 : i < 40
      rotate_left
      · have hp : 40 ≤ i := by omega
        have hp2 : ¬ ((i : Nat) : Int) < 40 := by omega
        have HN := Lib.hid (HY.out i HA.out (.inr hp))
        go_wp2
        go_ret
        rw [HN.out]
        exact ⟨rfl, HD.out⟩
      have hp2 : ((i : Nat) : Int) < 40 := by omega
      obtain ⟨x, hx⟩ : ∃ x, l.getD i noe = x := ⟨_, rfl⟩
      obtain ⟨q1, q2', q3⟩ := HX.out x (by rw [← hx]; exact getD_mem hlt)
      have q2 : x.ps.length ≤ 140737488351232 := by omega
      clear q2'
      have HQ3 := Lib.hid q3
      obtain ⟨c, off, po, pc, rfl, hc, c0, c1, hrp⟩ := (HR.out _ HD.out).at hlt hx
      have HNO := Lib.hid (fun h : smE x = false => smE_no hlt h40 (by rw [hx]; exact h))
      have HST := Lib.hid (smE_step l i hlt)
      rw [hx] at HST
      have HSE := Lib.hid (show smE x = (decide (x.ps.length ≤ 20) && (decide (x.id.length ≤ 100) && x.ps.all smP)) from rfl)
      have HRP := Lib.hid (fun w1 (d : Dr wr w1) => hrp.dr d)
      have HC1 := Lib.hid (fun w1 (d : Dr wr w1) => show w1.cell? ⟨c, off + i * 2 + 1, none⟩ = some (.slice po x.ps.length pc) by obtain ⟨m, rfl⟩ := d; exact c1)
      clear hx hrp q3
      by_cases hps : x.ps.length ≤ 20
      rotate_left
      · have HN := Lib.hid (HNO.out (by rw [HSE.out]; simp [hps]))
        have e1 : (20 : Int) < (x.ps.length : Nat) := by omega
        clear hps
        go_wp2_with fail
        go_ret
        rw [HN.out]
        exact ⟨rfl, HD.out⟩
      by_cases hidl : x.id.length ≤ 100
      rotate_left
      · have HN := Lib.hid (HNO.out (by rw [HSE.out]; simp [hidl]))
        have e1 : ¬ (20 : Int) < (x.ps.length : Nat) := by omega
        have e2 : (100 : Int) < (x.id.length : Nat) := by omega
        clear hps hidl
        go_wp2_with fail
        go_ret
        rw [HN.out]
        exact ⟨rfl, HD.out⟩
      have e1 : ¬ (20 : Int) < (x.ps.length : Nat) := by omega
      have e2 : ¬ (100 : Int) < (x.id.length : Nat) := by omega
      have HPS := Lib.hid hps
      have HIDL := Lib.hid hidl
      clear hps hidl
      go_wp2_with fail
      clear c0 c1 e1 e2
      go_loopg [4] x.ps.length (fun g v4 wx => SmRel10 x wr g v4 wx)
      case atStart => exact ⟨0, by omega, rfl, rfl, Dr.refl wr⟩
      case round =>
        obtain ⟨k, hk, hka, rfl, hd2⟩ := hrel
        have HK := Lib.hid hk
        have HKA := Lib.hid hka
        have HD2 := Lib.hid hd2
        have c1 := HC1.out _ hd2
        have hps20 : x.ps.length ≤ 20 := HPS.out
        clear hk hka hd2
        by_cases hkl : k < x.ps.length
        rotate_left
        · have hp : x.ps.length ≤ k := by omega
          have HN := Lib.hid (show (l.take (i + 1)).all smE = true by
            have hall : x.ps.all smP = true := by have := HKA.out; rw [List.take_of_length_le hp] at this; exact this
            rw [HST.out, HA.out, HSE.out, hall]; simp [HPS.out, HIDL.out])
          go_wp2
          go_roundg (l.length - (i + 1))
          case measure => have := HG.out; omega
          case rel => exact ⟨i + 1, by omega, by omega, HN.out, by simp, HD.out.trans HD2.out⟩
        · obtain ⟨cp, op, rfl, hcp, hpp⟩ := (HRP.out _ HD2.out).at (by omega)
          obtain ⟨p0, p1⟩ := hpp k hkl
          obtain ⟨r1, r2⟩ := HQ3.out _ (getD_mem (d := nop) hkl)
          have HPT := Lib.hid (smP_step x.ps k hkl)
          have HPN := Lib.hid (fun h : smP (x.ps.getD k nop) = false => HNO.out (by
            have hall : x.ps.all smP = false := by
              cases he : x.ps.all smP
              · rfl
              · have := List.all_eq_true.1 he _ (getD_mem (d := nop) hkl)
                rw [h] at this; cases this
            rw [HSE.out, hall]; simp))
          have HPE := Lib.hid (show smP (x.ps.getD k nop) = (decide ((x.ps.getD k nop).v.length ≤ 1000) && decide ((x.ps.getD k nop).n.length ≤ 100)) from rfl)
          clear hpp
          generalize x.ps.getD k nop = P at *
          by_cases hv : P.v.length ≤ 1000
          rotate_left
          · have HN := Lib.hid (HPN.out (by rw [HPE.out]; simp [hv]))
            have e1 : (1000 : Int) < (P.v.length : Nat) := by omega
            clear hv
            go_wp2_with fail
            go_ret
            rw [HN.out]
            exact ⟨rfl, (HD.out.trans HD2.out)⟩
          by_cases hnl : P.n.length ≤ 100
          rotate_left
          · have HN := Lib.hid (HPN.out (by rw [HPE.out]; simp [hnl]))
            have e1 : ¬ (1000 : Int) < (P.v.length : Nat) := by omega
            have e2 : (100 : Int) < (P.n.length : Nat) := by omega
            clear hv hnl
            go_wp2_with fail
            go_ret
            rw [HN.out]
            exact ⟨rfl, (HD.out.trans HD2.out)⟩
          have HN := Lib.hid (show (x.ps.take (k + 1)).all smP = true by rw [HPT.out, HKA.out, HPE.out]; simp [hv, hnl])
          have e1 : ¬ (1000 : Int) < (P.v.length : Nat) := by omega
          have e2 : ¬ (100 : Int) < (P.n.length : Nat) := by omega
          clear hv hnl
          go_wp2_with fail
          go_roundg (x.ps.length - (k + 1))
          case measure => have := HK.out; omega
          case rel => exact ⟨k + 1, by omega, HN.out, by simp, HD2.out⟩
end Go.Proofs.YtkpcfbadhoiigaaDoor
