/- The program's Same and Get of structured data, walked, II. -/
import Derived.Test.YtkpcfbadhoiigaaDoorQuqJ
namespace Go.Proofs.YtkpcfbadhoiigaaDoor
open Go.ChangeShapes Go.WideShapes Go.ChangeAt Go.RowKit K Q10 U4
set_option linter.unusedVariables false

theorem ksame_walk (a b : List El) (ao bo : Option Addr) (ca cb : Nat) (hn : a.length ≤ 140737488351232) (hn2 : b.length ≤ 140737488351232) (hps : ∀ x ∈ a, x.ps.length ≤ 140737488351232) (hps2 : ∀ x ∈ b, x.ps.length ≤ 140737488351232) (w : World) (hr : RdE w ao a) (hs : RdE w bo b) :
    Calls Tryd.prog 24 #[.slice ao a.length ca, .slice bo b.length cb] w fun e w' => e = .returned (.bool (saE a b)) ∧ Below w.heap.size w w' := by
  have HE := Lib.hid (equalfunc_walk a b ao bo ca cb hn hn2 hps hps2 w hr hs)
  clear hr hs hps hps2
  go_enter Tryd.func24, Tryd.ntmps24
  go_wp2_with fail
  refine HE.out.mono ?_
  rintro e w1 ⟨rfl, b1⟩
  go_wp2
  go_ret
  exact ⟨rfl, b1⟩
def gpS (l : List Pm) (n : List UInt8) : List UInt8 := (gtP l n).getD []
def gpB (l : List Pm) (n : List UInt8) : Bool := (gtP l n).isSome
def FiRel (ps : List Pm) (n : List UInt8) (w : World) (g : Nat) (v : Value) (wr : World) : Prop :=
  ∃ k, k + g = ps.length ∧ gtP ps n = gtP (ps.drop k) n ∧ v = .int .i64 (k : Nat) ∧ Below w.heap.size w wr
set_option maxRecDepth 100000 in
set_option maxHeartbeats 2000000 in
theorem kfirst_walk (ps : List Pm) (po : Option Addr) (pc : Nat) (n : List UInt8) (hn : ps.length ≤ 140737488351232) (w : World) (hr : RdP w po ps) :
    Calls Tryd.prog 40 #[.slice po ps.length pc, .string (bs n)] w fun e w' => e = .returned (.tuple #[.string (bs (gpS ps n)), .bool (gpB ps n)]) ∧ Below w.heap.size w w' := by
  have HR := Lib.hid (fun w1 (d : Below w.heap.size w w1) => hr.below d)
  clear hr
  go_enter Tryd.func40, Tryd.ntmps40
  go_wp2_with fail
  go_loopg [10] ps.length (fun g v wr => FiRel ps n w g v wr)
  case atStart => exact ⟨0, by omega, by simp, rfl, Below.refl _ _⟩
  case round =>
    obtain ⟨k, hk, hgp, rfl, hd⟩ := hrel
    have HK := Lib.hid hk
    have HGP := Lib.hid hgp
    have HD := Lib.hid hd
    clear hk hgp hd
    cases gk with
    | zero =>
      have hki : ps.length ≤ k := by have := HK.out; omega
      have HE := Lib.hid (show gtP ps n = none by rw [HGP.out, List.drop_of_length_le hki]; rfl)
      go_wp2
      go_ret2
      exact ⟨by unfold gpS gpB; rw [HE.out]; rfl, HD.out⟩
    | succ g =>
      have hki : k < ps.length := by have := HK.out; omega
      obtain ⟨cp, op, rfl, hcp, hpp⟩ := (HR.out _ HD.out).at (by omega)
      obtain ⟨p0, p1⟩ := hpp k hki
      obtain ⟨P, hP⟩ : ∃ P, ps.getD k nop = P := ⟨_, rfl⟩
      rw [hP] at p0 p1
      have HB := Lib.hid (HD.out.alloc (o := .cells #[.string (bs P.n), .string (bs P.v)] 47) HD.out.size)
      have hd := bs_eq P.n n
      by_cases hnn : P.n = n
      · have HE := Lib.hid (show gtP ps n = some P.v by rw [HGP.out, gtP_here hki (by rw [hP]; exact hnn), hP])
        have hb : (P.n == n) = true := beq_iff_eq.2 hnn
        rw [hb] at hd
        clear hpp hP hnn
        go_wp2
        go_ret2
        exact ⟨by unfold gpS gpB; rw [HE.out]; rfl, HB.out⟩
      · have HE := Lib.hid (show gtP ps n = gtP (ps.drop (k + 1)) n by rw [HGP.out]; exact gtP_next hki (by rw [hP]; exact hnn))
        have e1 : (P.n == n) = false := beq_eq_false_iff_ne.2 hnn
        rw [e1] at hd
        clear hpp hP hnn
        go_wp2
        go_roundg g
        case measure => have := HK.out; omega
        case rel => exact ⟨k + 1, by have := HK.out; omega, HE.out, by simp, HB.out⟩
def GeRel (l : List El) (id n : List UInt8) (w : World) (g : Nat) (v : Value) (wr : World) : Prop :=
  ∃ i, i + g = l.length ∧ gt l id n = gt (l.drop i) id n ∧ v = .int .i64 (i : Nat) ∧ Below w.heap.size w wr
set_option maxRecDepth 100000 in
set_option maxHeartbeats 2000000 in
theorem kget_walk (l : List El) (ao : Option Addr) (cap : Nat) (id n : List UInt8) (hn : l.length ≤ 140737488351232) (hps : ∀ x ∈ l, x.ps.length ≤ 140737488351232) (w : World) (hr : RdE w ao l) :
    Calls Tryd.prog 20 #[.slice ao l.length cap, .string (bs id), .string (bs n)] w fun e w' => e = .returned (.tuple #[.string (bs (gtS l id n)), .bool (gtB l id n)]) ∧ Below w.heap.size w w' := by
  have HR := Lib.hid (fun w1 (d : Below w.heap.size w w1) => hr.below d)
  have HPS := Lib.hid hps
  clear hr hps
  go_enter Tryd.func20, Tryd.ntmps20
  go_wp2_with fail
  go_loopg [12] l.length (fun g v wr => GeRel l id n w g v wr)
  case atStart => exact ⟨0, by omega, by simp, rfl, Below.refl _ _⟩
  case round =>
    obtain ⟨i, hg, hgt, rfl, hd⟩ := hrel
    have HG := Lib.hid hg
    have HGT := Lib.hid hgt
    have HD := Lib.hid hd
    clear hg hgt hd
    cases gk with
    | zero =>
      have hi : l.length ≤ i := by have := HG.out; omega
      have HN := Lib.hid (show gt l id n = none by rw [HGT.out, List.drop_of_length_le hi]; rfl)
      go_wp2
      go_ret2
      exact ⟨by unfold gtS gtB; rw [HN.out]; rfl, HD.out⟩
    | succ g =>
      have hlt : i < l.length := by have := HG.out; omega
      obtain ⟨x, hx⟩ : ∃ x, l.getD i noe = x := ⟨_, rfl⟩
      have hpl : x.ps.length ≤ 140737488351232 := HPS.out x (by rw [← hx]; exact getD_mem hlt)
      obtain ⟨c, off, po, pc, rfl, hc, c0, c1, hrp⟩ := (HR.out _ HD.out).at hlt hx
      have a1 := alloc_in' wr (.cells #[.string (bs x.id), .slice po x.ps.length pc] 45)
      have HB := Lib.hid (HD.out.trans (a1.mono HD.out.size))
      have HF := Lib.hid (kfirst_walk x.ps po pc n hpl _ (hrp.below a1))
      have hd := bs_eq x.id id
      clear hrp a1
      by_cases hid : x.id = id
      · have HN := Lib.hid (show gt l id n = gtP x.ps n by rw [HGT.out, gt_here hlt (by rw [hx]; exact hid), hx])
        have hb : (x.id == id) = true := beq_iff_eq.2 hid
        rw [hb] at hd
        clear hx hid
        go_wp2_with fail
        refine HF.out.mono ?_
        rintro e w2 ⟨rfl, d2⟩
        have b2 := HB.out.trans (d2.mono HB.out.size)
        go_wp2
        go_ret2
        exact ⟨by unfold gtS gtB; rw [HN.out]; rfl, b2⟩
      · have HN := Lib.hid (show gt l id n = gt (l.drop (i + 1)) id n by rw [HGT.out]; exact gt_next hlt (by rw [hx]; exact hid))
        have e1 : (x.id == id) = false := beq_eq_false_iff_ne.2 hid
        rw [e1] at hd
        clear hx hid
        go_wp2
        go_roundg g
        case measure => have := HG.out; omega
        case rel => exact ⟨i + 1, by have := HG.out; omega, HN.out, by simp, HB.out⟩
end Go.Proofs.YtkpcfbadhoiigaaDoor
