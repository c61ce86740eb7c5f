/- Texts on the program and on the document, joined: PduWo, BerY, BerK. -/
import Derived.Test.YtlpknkfidcojeaaGreatDoorMa40
import Derived.Test.YtlpknkfidcojeaaGreatDoorMa29
import Derived.Test.YtlpknkfidcojeaaGreatDoorMa20
import Derived.BigQuiet
import Derived.Deep.QuietTactic
import Derived.Test.YtlpknkfidcojeaaGreatDoorMa08
import Derived.Test.YtlpknkfidcojeaaGreatDoorMa31
/- PduWrites, where nothing is said; and all ways together. -/
namespace Go.Proofs.YtlpknkfidcojeaaGreatDoor
open Go.ChangeShapes Go.WideShapes Go.ChangeAt Go.RowKit K P1 B5
open D8 (Bd Un lst deB deL deU)
set_option linter.unusedVariables false

set_option maxRecDepth 100000 in
set_option maxHeartbeats 2000000 in
theorem pduWrites_out (u v : Un) (ao bo : Option Addr) (ca cb : Nat) (r : List UInt8) (hb : r.length ≤ 140737488351232) (w : World) (T : Tp w) (hl : u.l.length ≤ 140737488351232) (hl2 : v.l.length ≤ 140737488351232) (hx : Lim u.l) (hx2 : Lim v.l) (hr : RdB w ao u.l) (hr2 : RdB w bo v.l) (h : smB u.l = false ∨ (smB u.l = true ∧ smB v.l = false) ∨ (smB u.l = true ∧ smB v.l = true ∧ 2000 < r.length)) :
    Calls Tryz.prog 4 #[.agg #[.int .i64 u.t, .int .i64 u.r, .int .i64 u.a, .int .i64 u.i, .slice ao u.l.length ca], .agg #[.int .i64 v.t, .int .i64 v.r, .int .i64 v.a, .int .i64 v.i, .slice bo v.l.length cb], .string (bs r)] w fun e w' => e = .returned (.bool true) ∧ Below w.heap.size w w' := by
  have HWk := Lib.hid (fun w1 (h : Tp w1) => works8_walk w1 h)
  obtain ⟨w0, hw0, hu0, hv0, b0⟩ := two_units 25 w u v ao bo ca cb
  have HR0 := Lib.hid (hr.below b0)
  have HS0 := Lib.hid (hr2.below b0)
  have HT0 := Lib.hid (T.below b0)
  have hSm1 := fun w1 (h : RdB w1 ao u.l) => small_walk u.l ao ca hl hx w1 h
  have hSm2 := fun w1 (h : RdB w1 bo v.l) => small_walk v.l bo cb hl2 hx2 w1 h
  have HW0 := Lib.hid hw0
  clear hw0 T hr hr2
  rcases h with h | ⟨h, h2⟩ | ⟨h, h2, h3⟩
  · rw [h] at hSm1
    have HSm1 := Lib.hid hSm1
    clear hSm1 hSm2 h
    go_enter Tryz.func4, Tryz.ntmps4
    go_wp2_with fail
    rw [HW0.out]
    obtain ⟨y0, y1, y2, y3, y4⟩ := hu0.cells
    clear HW0
    refine (HSm1.out _ HR0.out).mono ?_
    rintro e w1 ⟨rfl, d1⟩
    have HT1 := Lib.hid (HT0.out.below d1)
    have b1 := b0.trans (d1.mono b0.size)
    go_wp2_with fail
    refine (HWk.out _ HT1.out).mono ?_
    rintro e w2 ⟨rfl, d2⟩
    go_wp2
    go_ret
    exact ⟨rfl, b1.trans (d2.mono b1.size)⟩
  · rw [h] at hSm1
    rw [h2] at hSm2
    have HSm1 := Lib.hid hSm1
    have HSm2 := Lib.hid hSm2
    clear hSm1 hSm2 h h2
    go_enter Tryz.func4, Tryz.ntmps4
    go_wp2_with fail
    rw [HW0.out]
    obtain ⟨y0, y1, y2, y3, y4⟩ := hu0.cells
    clear HW0
    refine (HSm1.out _ HR0.out).mono ?_
    rintro e w1 ⟨rfl, d1⟩
    have HT1 := Lib.hid (HT0.out.below d1)
    have HS1 := Lib.hid (HS0.out.below d1)
    have b1 := b0.trans (d1.mono b0.size)
    obtain ⟨z0, z1, z2, z3, z4⟩ := (hv0.below d1).cells
    clear y0 y1 y2 y3 y4 d1
    go_wp2_with fail
    refine (HSm2.out _ HS1.out).mono ?_
    rintro e w2 ⟨rfl, d2⟩
    have HT2 := Lib.hid (HT1.out.below d2)
    have b2 := b1.trans (d2.mono b1.size)
    go_wp2_with fail
    refine (HWk.out _ HT2.out).mono ?_
    rintro e w3 ⟨rfl, d3⟩
    go_wp2
    go_ret
    exact ⟨rfl, b2.trans (d3.mono b2.size)⟩
  · rw [h] at hSm1
    rw [h2] at hSm2
    have HSm1 := Lib.hid hSm1
    have HSm2 := Lib.hid hSm2
    have h3' : (2000 : Int) < ((r.length : Nat) : Int) := by omega
    clear hSm1 hSm2 h h2 h3
    go_enter Tryz.func4, Tryz.ntmps4
    go_wp2_with fail
    rw [HW0.out]
    obtain ⟨y0, y1, y2, y3, y4⟩ := hu0.cells
    clear HW0
    refine (HSm1.out _ HR0.out).mono ?_
    rintro e w1 ⟨rfl, d1⟩
    have HT1 := Lib.hid (HT0.out.below d1)
    have HS1 := Lib.hid (HS0.out.below d1)
    have b1 := b0.trans (d1.mono b0.size)
    obtain ⟨z0, z1, z2, z3, z4⟩ := (hv0.below d1).cells
    clear y0 y1 y2 y3 y4 d1
    go_wp2_with fail
    refine (HSm2.out _ HS1.out).mono ?_
    rintro e w2 ⟨rfl, d2⟩
    have HT2 := Lib.hid (HT1.out.below d2)
    have b2 := b1.trans (d2.mono b1.size)
    go_wp2_with fail
    refine (HWk.out _ HT2.out).mono ?_
    rintro e w3 ⟨rfl, d3⟩
    go_wp2
    go_ret
    exact ⟨rfl, b2.trans (d3.mono b2.size)⟩
theorem pduWrites_walk (u v : Un) (ao bo : Option Addr) (ca cb : Nat) (r : List UInt8) (hb : r.length ≤ 140737488351232) (w : World) (T : Tp w) (hl : u.l.length ≤ 140737488351232) (hl2 : v.l.length ≤ 140737488351232) (hx : Lim u.l) (hx2 : Lim v.l) (hr : RdB w ao u.l) (hr2 : RdB w bo v.l) (hsh : (ao = none ∧ u.l.length = 0 ∧ ca = 0) ∨ ∃ a, ao = some a) :
    Calls Tryz.prog 4 #[.agg #[.int .i64 u.t, .int .i64 u.r, .int .i64 u.a, .int .i64 u.i, .slice ao u.l.length ca], .agg #[.int .i64 v.t, .int .i64 v.r, .int .i64 v.a, .int .i64 v.i, .slice bo v.l.length cb], .string (bs r)] w fun e w' => e = .returned (.bool true) ∧ Below w.heap.size w w' := by
  cases h1 : smB u.l
  · exact pduWrites_out u v ao bo ca cb r hb w T hl hl2 hx hx2 hr hr2 (.inl h1)
  cases h2 : smB v.l
  · exact pduWrites_out u v ao bo ca cb r hb w T hl hl2 hx hx2 hr hr2 (.inr (.inl ⟨h1, h2⟩))
  by_cases h3 : 2000 < r.length
  · exact pduWrites_out u v ao bo ca cb r hb w T hl hl2 hx hx2 hr hr2 (.inr (.inr ⟨h1, h2, h3⟩))
  · exact pduWrites_in u v ao bo ca cb r (by omega) w T hl hl2 hx hx2 hr hr2 hsh h1 h2
end Go.Proofs.YtlpknkfidcojeaaGreatDoor
/- The law on ber's there and back, walked on calls that keep their word. -/
namespace Go.Proofs.YtlpknkfidcojeaaGreatDoor
open Go.ChangeShapes Go.WideShapes Go.ChangeAt Go.RowKit K P1 B5
set_option linter.unusedVariables false

def puts (ps : List (Nat × List UInt8)) : List UInt8 := ps.flatMap fun p => put p.1 p.2
theorem puts_app (a b : List (Nat × List UInt8)) : puts (a ++ b) = puts a ++ puts b := by simp [puts]
theorem puts_one (t : Nat) (b : List UInt8) : puts [(t, b)] = put t b := by simp [puts]
def PtPost (ps : List (Nat × List UInt8)) (w : World) (e : Ending) (w' : World) : Prop :=
  ∃ v, e = .returned (.tuple #[v, .int .i64 0]) ∧ OwnP w' w.heap.size 30 v ps ∧ Below w.heap.size w w'
theorem Below_drewNb {B : Nat} {a b : World} (h : Below B a b) (n : Nat) : Below B a (b.drewN n) := ⟨h.os, h.tape, h.output, h.size, h.block⟩
/-- The tag of a number. -/
def tgN (x : Int) : Nat := if belowN x 256 % 32 = 31 then (belowN x 256 - 1).toNat else (belowN x 256).toNat
theorem tgN_ok (x : Int) : isTag (tgN x) = true ∧ tgN x < 256 := by
  have h := belowN_bounds x 256 (by omega)
  unfold tgN isTag
  by_cases h1 : belowN x 256 % 32 = 31
  · rw [if_pos h1]
    exact ⟨by rw [bne_iff_ne]; omega, by omega⟩
  · rw [if_neg h1]
    exact ⟨by rw [bne_iff_ne]; omega, by omega⟩
def wl (ns : Nat → Int) (b : List UInt8) (i : Nat) : List (Nat × List UInt8) := (List.range i).map fun j => (tgN (ns j), b)
theorem wl_succ (ns : Nat → Int) (b : List UInt8) (i : Nat) : wl ns b (i + 1) = wl ns b i ++ [(tgN (ns i), b)] := by
  unfold wl; rw [List.range_succ, List.map_append]; rfl
theorem wl_len (ns : Nat → Int) (b : List UInt8) (i : Nat) : (wl ns b i).length = i := by simp [wl]
theorem wl_ok (ns : Nat → Int) (b : List UInt8) (hb : b.length ≤ 300) (i : Nat) : ∀ p ∈ wl ns b i, isTag p.1 = true ∧ p.1 < 256 ∧ p.2.length ≤ 300 := by
  intro p hp
  unfold wl at hp
  obtain ⟨j, _, rfl⟩ := List.mem_map.1 hp
  exact ⟨(tgN_ok _).1, (tgN_ok _).2, hb⟩
theorem part_info : (Tryz.prog.info? 30).map (fun i => (i.zero, i.size, i.bytes)) = some (some (.agg #[.int .i64 0, .string .empty]), 2, 24) := by kernel_rfl
def BbRel (w : World) (ns : Nat → Int) (b : List UInt8) (I g : Nat) (v7 v8 v35 : Value) (wr : World) : Prop :=
  ∃ i, i + g = I ∧ v7 = .string (bs (puts (wl ns b i))) ∧ v35 = .int .i64 (i : Nat) ∧ OwnP wr w.heap.size 30 v8 (wl ns b i) ∧ Below w.heap.size w wr ∧ (puts (wl ns b i)).length ≤ i * 310
def BcRel (w : World) (n g : Nat) (v107 : Value) (wr : World) : Prop := ∃ i, i + g = n ∧ v107 = .int .i64 (i : Nat) ∧ ∃ m, wr = w.drewN m
theorem works_vals : whC [2, 130, 0, 1, 5] = [2, 1, 5] ∧ whE [2, 130, 0, 1, 5] = 0 ∧ put 2 [5] ++ [] = [2, 1, 5] ∧ nOk [5] = true ∧ nv [5] = 5 ∧ isTag 2 = true := by decide +kernel
end Go.Proofs.YtlpknkfidcojeaaGreatDoor
/- ber.Canon, walked; all calls keep their word. -/
namespace Go.Proofs.YtlpknkfidcojeaaGreatDoor
open Go.ChangeShapes Go.WideShapes Go.ChangeAt Go.RowKit K P1 B5
set_option linter.unusedVariables false

theorem canon_walk (l : List UInt8) (hl : l.length ≤ 100000000) (w : World) :
    Calls Tryz.prog 21 #[.string (bs l)] w fun e w' => e = .returned (.tuple #[.string (bs (whC l)), .int .i64 (whE l : Nat)]) ∧ Below w.heap.size w w' := by
  have hD := deep_walk l hl w
  cases hwh : wh l with
  | error e =>
    obtain ⟨a1, a2, a3⟩ := wh_bad hwh
    have hec := wh_codes hwh
    rw [a1, a2] at hD
    rw [a1, a3]
    have hne : (((e : Nat) : Int) != 0) = true := by rw [bne_iff_ne]; omega
    have HD := Lib.hid hD
    clear hD hwh a1 a2 a3 hec
    go_enter Tryz.func21, Tryz.ntmps21
    go_wp2_with fail
    refine HD.out.mono ?_
    rintro e w1 ⟨rfl, b1⟩
    go_wp2
    go_ret2
    exact ⟨rfl, b1⟩
  | ok f =>
    obtain ⟨a1, a2, a3⟩ := wh_ok hwh
    rw [a1, a2] at hD
    rw [a1, a3]
    have hS : ∀ w1 : World, Calls Tryz.prog 51 #[.string (bs l)] w1 fun e w' => e = .returned (.string (bs f.enc)) ∧ Below w1.heap.size w1 w' := short_walk l.length 1 l f (Nat.le_refl _) hl (wh_inv hwh).2.2
    have HS := Lib.hid hS
    have HD := Lib.hid hD
    clear hD hS hwh a1 a2 a3
    generalize f.enc = X at *
    go_enter Tryz.func21, Tryz.ntmps21
    go_wp2_with fail
    refine HD.out.mono ?_
    rintro e w1 ⟨rfl, b1⟩
    go_wp2_with fail
    refine (HS.out _).mono ?_
    rintro e w2 ⟨rfl, b2⟩
    go_wp2
    go_ret2
    exact ⟨rfl, b1.trans (b2.mono b1.size)⟩
theorem next_put (t : Nat) (b r : List UInt8) (w : World) (ht : isTag t = true) (ht2 : t < 256) (hb : b.length ≤ 300) (hr : r.length ≤ 300) :
    Calls Tryz.prog 20 #[.string (bs (put t b ++ r))] w fun e w' => e = .returned (.tuple #[.agg #[.int .i64 t, .string (bs b)], .string (bs r), .int .i64 0]) ∧ Below w.heap.size w w' := by
  obtain ⟨x1, x2, x3, x4⟩ := nx_put t b r ht ht2 (by omega)
  have hl : (put t b ++ r).length ≤ 140737488351232 := by
    rw [List.length_append, put_len]; have := short_le b.length; omega
  have h := next_ok (put t b ++ r) hl x1 w
  rw [x2, x3, x4] at h
  exact h
theorem parts_puts (ps : List (Nat × List UInt8)) (w : World) (h : ∀ p ∈ ps, isTag p.1 = true ∧ p.1 < 256 ∧ p.2.length ≤ 300) (hn : ps.length ≤ 30) :
    Calls Tryz.prog 53 #[.string (bs (puts ps))] w (PtPost ps w) := by
  have hl : ∀ ps : List (Nat × List UInt8), (∀ p ∈ ps, isTag p.1 = true ∧ p.1 < 256 ∧ p.2.length ≤ 300) → (puts ps).length ≤ ps.length * 310 := by
    intro ps
    induction ps with
    | nil => intro _; simp [puts]
    | cons p ps ih =>
      intro h
      have h1 := ih (fun q hq => h q (by simp [hq]))
      have h2 := (h p (by simp)).2.2
      have h3 := short_le p.2.length
      have : puts (p :: ps) = put p.1 p.2 ++ puts ps := by simp [puts]
      rw [this, List.length_append, put_len, List.length_cons]; omega
  have hle := hl ps h
  have hp := prt_puts ps 0 (fun p hp => ⟨(h p hp).1, (h p hp).2.1, by have := (h p hp).2.2; omega⟩) (by omega)
  refine (parts_list_walk (puts ps) (by omega) w).mono ?_
  intro e w' hq
  rcases hq with ⟨c, h1, h2, h3⟩ | ⟨qs, v, h1, h2, h3, h4⟩
  · rw [show prt 0 (puts ps) = .ok ps from hp] at h1; cases h1
  · rw [show prt 0 (puts ps) = .ok ps from hp] at h1
    cases h1
    exact ⟨v, h2, h3, h4⟩
theorem number_yes (l : List UInt8) (w : World) (h : nOk l = true) : Calls Tryz.prog 54 #[.string (bs l)] w fun e w' => e = .returned (.tuple #[.int .i64 (nv l), .int .i64 0]) ∧ Below w.heap.size w w' := by
  have hl : l.length ≤ 8 := by
    unfold nOk at h
    simp only [Bool.and_eq_true, decide_eq_true_eq] at h
    exact h.2.1
  have := number_walk l (by omega) w
  rw [show nuV l = nv l by unfold nuV; rw [h]; rfl, show nuE l = 0 by unfold nuE; rw [h]; rfl] at this
  exact this
theorem unsigned_yes (l : List UInt8) (w : World) (h : uOk l = true) : Calls Tryz.prog 121 #[.string (bs l)] w fun e w' => e = .returned (.tuple #[.int .u64 (uv l), .int .i64 0]) ∧ Below w.heap.size w w' := by
  have hl : l.length ≤ 9 := by
    unfold uOk nOk at h
    simp only [Bool.or_eq_true, Bool.and_eq_true, decide_eq_true_eq, beq_iff_eq] at h
    rcases h with h | h
    · omega
    · have := h.1.2.1; omega
  have := unsigned_walk l (by omega) w
  rw [show uuV l = uv l by unfold uuV; rw [h]; rfl, show uuE l = 0 by unfold uuE; rw [h]; rfl] at this
  exact this
end Go.Proofs.YtlpknkfidcojeaaGreatDoor
