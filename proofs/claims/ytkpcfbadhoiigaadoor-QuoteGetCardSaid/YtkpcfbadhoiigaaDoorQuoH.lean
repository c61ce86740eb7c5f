/- The document's Get of structured data, walked. -/
import Derived.Test.YtkpcfbadhoiigaaDoorQuoG
namespace Go.Proofs.YtkpcfbadhoiigaaDoor
open Go.ChangeShapes Go.WideShapes Go.ChangeAt Go.RowKit K Q10 U4
set_option linter.unusedVariables false

def gtS (l : List El) (id n : List UInt8) : List UInt8 := (gt l id n).getD []
def gtB (l : List El) (id n : List UInt8) : Bool := (gt l id n).isSome
theorem dropD {α : Type} (l : List α) (i : Nat) (d : α) (h : i < l.length) : l.drop i = l.getD i d :: l.drop (i + 1) := by
  rw [List.drop_eq_getElem_cons h]; simp [List.getD, List.getElem?_eq_getElem h]
theorem gt_next {l : List El} {i : Nat} {id n : List UInt8} (h : i < l.length) (hn : (l.getD i noe).id ≠ id) : gt (l.drop i) id n = gt (l.drop (i + 1)) id n := by
  rw [dropD l i noe h]; exact gt_front hn
theorem gt_here {l : List El} {i : Nat} {id n : List UInt8} (h : i < l.length) (hn : (l.getD i noe).id = id) : gt (l.drop i) id n = gtP (l.getD i noe).ps n := by
  rw [dropD l i noe h]
  unfold gt
  rw [List.find?_cons, beq_iff_eq.2 hn]
  rfl
theorem gtP_next {l : List Pm} {i : Nat} {n : List UInt8} (h : i < l.length) (hn : (l.getD i nop).n ≠ n) : gtP (l.drop i) n = gtP (l.drop (i + 1)) n := by
  rw [dropD l i nop h]
  unfold gtP
  rw [List.find?_cons, beq_eq_false_iff_ne.2 hn]
theorem gtP_here {l : List Pm} {i : Nat} {n : List UInt8} (h : i < l.length) (hn : (l.getD i nop).n = n) : gtP (l.drop i) n = some (l.getD i nop).v := by
  rw [dropD l i nop h]
  unfold gtP
  rw [List.find?_cons, beq_iff_eq.2 hn]
  rfl
def GtRel (l : List El) (id n : List UInt8) (w : World) (g : Nat) (v5 : Value) (wr : World) : Prop :=
  ∃ i, i + g = l.length ∧ gt l id n = gt (l.drop i) id n ∧ v5 = .int .i64 (i : Nat) ∧ Dr w wr
def GpRel (x : El) (n : List UInt8) (w : World) (g : Nat) (v6 : Value) (wr : World) : Prop :=
  ∃ k, k + g = x.ps.length ∧ gtP x.ps n = gtP (x.ps.drop k) n ∧ v6 = .int .i64 (k : Nat) ∧ Dr w wr
set_option maxRecDepth 100000 in
set_option maxHeartbeats 2000000 in
theorem qget10_walk (l : List El) (ao : Option Addr) (cap : Nat) (id n : List UInt8) (hn : l.length ≤ 140737488351232) (hps : ∀ x ∈ l, x.ps.length ≤ 140737488351232) (w : World) (hr : RdE w ao l) :
    Calls Tryd.prog 21 #[.slice ao l.length cap, .string (bs id), .string (bs n)] w fun e w' => e = .returned (.tuple #[.string (bs (gtS l id n)), .bool (gtB l id n)]) ∧ Dr w w' := by
  have HR := Lib.hid (fun w1 (d : Dr w w1) => hr.dr d)
  have HPS := Lib.hid hps
  clear hr hps
  go_enter Tryd.func21, Tryd.ntmps21
  go_wp2
  go_loopg [8] l.length (fun g v5 wr => GtRel l id n w g v5 wr)
  case atStart => exact ⟨0, by omega, by simp, rfl, Dr.refl w⟩
  case round =>
    obtain ⟨i, hg, hgt, rfl, hd⟩ := hrel
    have HG := Lib.hid hg
    have HGT := Lib.hid hgt
    have HD := Lib.hid hd
    clear hg hgt hd
    cases gk with
    | zero =>
      have hi : l.length ≤ i := by have := HG.out; omega
      have HN := Lib.hid (show gt l id n = none by rw [HGT.out, List.drop_of_length_le hi]; rfl)
      go_wp2
      go_ret2
      exact ⟨by unfold gtS gtB; rw [HN.out]; rfl, HD.out⟩
    | succ g =>
      have hlt : i < l.length := by have := HG.out; omega
      obtain ⟨x, hx⟩ : ∃ x, l.getD i noe = x := ⟨_, rfl⟩
      have hpl : x.ps.length ≤ 140737488351232 := HPS.out x (by rw [← hx]; exact getD_mem hlt)
      obtain ⟨c, off, po, pc, rfl, hc, c0, c1, hrp⟩ := (HR.out _ HD.out).at hlt hx
      have HRP := Lib.hid (fun w1 (d : Dr wr w1) => hrp.dr d)
      have HC1 := Lib.hid (fun w1 (d : Dr wr w1) => show w1.cell? ⟨c, off + i * 2 + 1, none⟩ = some (.slice po x.ps.length pc) by obtain ⟨m, rfl⟩ := d; exact c1)
      by_cases hid : x.id = id
      rotate_left
      · have HN := Lib.hid (show gt l id n = gt (l.drop (i + 1)) id n by rw [HGT.out]; exact gt_next hlt (by rw [hx]; exact hid))
        have e1 : (x.id == id) = false := beq_eq_false_iff_ne.2 hid
        have e2 : decide (bs x.id = bs id) = false := decide_eq_false (fun h => hid (bs_inj h))
        clear hx hrp hid
        go_wp2
        go_roundg g
        case measure => have := HG.out; omega
        case rel => exact ⟨i + 1, by have := HG.out; omega, HN.out, by simp, HD.out⟩
      have HN := Lib.hid (show gt l id n = gtP x.ps n by rw [HGT.out, gt_here hlt (by rw [hx]; exact hid), hx])
      rw [hid] at c0
      clear hx hrp hid
      go_wp2_with fail
      clear c0 c1
      go_loopg [9] x.ps.length (fun g v6 wx => GpRel x n wr g v6 wx)
      case atStart => exact ⟨0, by omega, by simp, rfl, Dr.refl wr⟩
      case round =>
        obtain ⟨k, hk, hgp, rfl, hd2⟩ := hrel
        have HK := Lib.hid hk
        have HGP := Lib.hid hgp
        have HD2 := Lib.hid hd2
        have c1 := HC1.out _ hd2
        clear hk hgp hd2
        cases gk with
        | zero =>
          have hki : x.ps.length ≤ k := by have := HK.out; omega
          have HE := Lib.hid (show gt l id n = none by rw [HN.out, HGP.out, List.drop_of_length_le hki]; rfl)
          go_wp2
          go_ret2
          exact ⟨by unfold gtS gtB; rw [HE.out]; rfl, HD.out.trans HD2.out⟩
        | succ g2 =>
          have hki : k < x.ps.length := by have := HK.out; omega
          obtain ⟨cp, op, rfl, hcp, hpp⟩ := (HRP.out _ HD2.out).at (by omega)
          obtain ⟨p0, p1⟩ := hpp k hki
          obtain ⟨P, hP⟩ : ∃ P, x.ps.getD k nop = P := ⟨_, rfl⟩
          rw [hP] at p0 p1
          by_cases hnn : P.n = n
          · have HE := Lib.hid (show gt l id n = some P.v by rw [HN.out, HGP.out, gtP_here hki (by rw [hP]; exact hnn), hP])
            rw [hnn] at p0
            clear hpp hP hnn
            go_wp2
            go_ret2
            exact ⟨by unfold gtS gtB; rw [HE.out]; rfl, HD.out.trans HD2.out⟩
          · have HE := Lib.hid (show gtP x.ps n = gtP (x.ps.drop (k + 1)) n by rw [HGP.out]; exact gtP_next hki (by rw [hP]; exact hnn))
            have e1 : (P.n == n) = false := beq_eq_false_iff_ne.2 hnn
            have e2 : decide (bs P.n = bs n) = false := decide_eq_false (fun h => hnn (bs_inj h))
            clear hpp hP hnn
            go_wp2
            go_roundg g2
            case measure => have := HK.out; omega
            case rel => exact ⟨k + 1, by have := HK.out; omega, HE.out, by simp, HD2.out⟩
end Go.Proofs.YtkpcfbadhoiigaaDoor
