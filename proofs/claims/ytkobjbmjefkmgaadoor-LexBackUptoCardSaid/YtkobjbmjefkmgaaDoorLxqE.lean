/- The program's run, walked. -/
import Derived.Test.YtkobjbmjefkmgaaDoorLxqB
import Derived.Test.YtkobjbmjefkmgaaDoorLxqD
import Derived.Test.YtkobjbmjefkmgaaDoorLexD
import Derived.Deep.RegionHeld3
import Derived.Deep.RegionWith
import Derived.RegionTactic
namespace Go.Proofs.YtkobjbmjefkmgaaDoor
open Go.ChangeShapes Go.WideShapes Go.ChangeAt Go.RowKit K L14
set_option linter.unusedVariables false

theorem results_cell_row3x {P : Program} {fn : Func} {p u v : Tmp} {ty : TypeId} (h : fn.results = #[.cell p ty, .tmp u, .tmp v]) (tmps : Array Value) (w : World) (g : Nat) (t : TypeId) (cs : Array Value) (fr : Nat × Nat) (d : TypeDesc)
    (hp : tmps.getD p undef = .pointer (some ⟨g, 0, none⟩)) (hg : w.heap[g]? = some (.cells cs t fr))
    (hu : P.underlying ty = some d) (hd : (match d with | .struct _ | .array _ _ => true | _ => false) = true) (hi : (P.info? ty).map (·.size) = some cs.size) :
    (results fn tmps).run P w = .ok (.tuple #[.agg cs, tmps.getD u undef, tmps.getD v undef]) w := by
  have hp' : tmps[p]?.getD undef = .pointer (some ⟨g, 0, none⟩) := by simpa using hp
  simp [results, h, hp', asAddr, run_loadVar_row w g t ty cs fr d hg hu hd hi]
/-- A token, what stands behind it, and whether it is one. -/
def TkPost (o : Option ((Nat × List UInt8) × List UInt8)) (w : World) (e : Ending) (w' : World) : Prop :=
  (e = .returned (match o with | some ((k, t), r) => .tuple #[.agg #[.int .i64 (k : Nat), .string (bs t), .int .i64 0], .string (bs r), .bool true] | none => .tuple #[.agg #[.int .i64 0, .string (bs []), .int .i64 0], .string (bs []), .bool false])) ∧ Below w.heap.size w w'
/-- What run answers. -/
def rnP (k : Nat) (s : List UInt8) : Option ((Nat × List UInt8) × List UInt8) := if L14.run k s = 0 then none else some ((k, s.take (L14.run k s)), s.drop (L14.run k s))
def RnRel (s : List UInt8) (R : Nat) (W : World) (g : Nat) (v : Value) (wx : World) : Prop := wx = W ∧ ∃ i : Nat, i + g = s.length ∧ i ≤ R ∧ v = .int .i64 i
set_option maxRecDepth 100000 in
set_option maxHeartbeats 1000000 in
theorem lrun_walk (k : Nat) (hk : k = 1 ∨ k = 2 ∨ k = 3) (s : List UInt8) (hs : s.length ≤ 140737488351232) (w : World) :
    Calls Tryd.prog 39 #[.int .i64 (k : Nat), .string (bs s), .func (Fn.func 40) #[.string (bs (mks k))] #[]] w (TkPost (rnP k s) w) := by
  have HG := Lib.hid (fun n hn w1 => lgo_walk k hk n hn w1)
  have HR := Lib.hid (run_at k s)
  have HL := Lib.hid (run_le k s)
  generalize mks k = M at *
  clear hk
  obtain ⟨R, hR⟩ : ∃ R, L14.run k s = R := ⟨_, rfl⟩
  have HX := Lib.hid (show rnP k s = if R = 0 then none else some ((k, s.take R), s.drop R) by unfold rnP; rw [hR])
  rw [hR] at HR HL
  clear hR
  generalize rnP k s = O at *
  go_enter Tryd.func39, Tryd.ntmps39
  go_wp2
  go_loopg [9] s.length (fun g v9 wx => RnRel s R (w.alloc (.cells #[.int .i64 0, .string { data := #[] }, .int .i64 0] 33)) g v9 wx)
  case atStart => exact ⟨rfl, 0, by omega, by omega, rfl⟩
  case round =>
    obtain ⟨rfl, i, hig, hiR, rfl⟩ := hrel
    by_cases hgo : i < s.length ∧ i < R
    · obtain ⟨hi, hi3⟩ := hgo
      have hi2 : ((i : Nat) : Int) < ((s.length : Nat) : Int) := by omega
      have hb := byt_lt s i
      have H1 := HG.out (byt s i) hb (w.alloc (.cells #[.int .i64 0, .string { data := #[] }, .int .i64 0] 33))
      rw [(HR.out i hiR).1 hi, decide_eq_true hi3] at H1
      have HH := Lib.hid H1
      obtain ⟨G, rfl⟩ : ∃ G, gk = G + 1 := ⟨gk - 1, by omega⟩
      clear H1
      go_wp2_with fail
      refine HH.out.mono ?_
      rintro e w1 ⟨rfl, rfl⟩
      go_wp2
      go_roundg G
      case measure => omega
      case rel => exact ⟨rfl, i + 1, by omega, by omega, rfl⟩
    · have hiR2 : R = i := by
        by_cases hi : i < s.length
        · omega
        · have := (HR.out i hiR).2 (by omega); omega
      subst hiR2
      have hB0 := (Below.refl w.heap.size w).alloc (Nat.le_refl _) (.cells #[.int .i64 0, .string { data := #[] }, .int .i64 0] 33)
      have hcs : R < s.length ∨ R = s.length := by have := HL.out; omega
      have hz : R = 0 ∨ 0 < R := by omega
      clear hgo
      have HB0 := Lib.hid (fun X => (Below.refl w.heap.size w).alloc (Nat.le_refl _) X)
      have hR0 := rowNew w (.cells #[.int .i64 0, .string { data := #[] }, .int .i64 0] 33)
      have z0 := cellRow hR0 0
      have z1 := cellRow hR0 1
      have z2 := cellRow hR0 2
      have f0 := freeRow hR0 0
      have f1 := freeRow hR0 1
      have f2 := freeRow hR0 2
      have hcs2 : (∃ hb : byt s R < 256, R < s.length) ∨ R = s.length := by rcases hcs with h | h; exact .inl ⟨byt_lt s R, h⟩; exact .inr h
      rcases hcs with hi | hi
      · have hi2 : ((R : Nat) : Int) < ((s.length : Nat) : Int) := by omega
        have hb := byt_lt s R
        have H1 := HG.out (byt s R) hb (w.alloc (.cells #[.int .i64 0, .string { data := #[] }, .int .i64 0] 33))
        rw [(HR.out R hiR).1 hi, decide_eq_false (Nat.lt_irrefl R)] at H1
        have HH := Lib.hid H1
        clear H1 hB0 hcs2
        rcases hz with rfl | hz
        · rw [if_pos rfl] at HX
          go_wp2_with fail
          refine HH.out.mono ?_
          rintro e w1 ⟨rfl, rfl⟩
          go_wp2_with fail
          refine bodyPost_ret (results_cell_row3x rfl _ _ w.heap.size _ _ _ _ rfl (rowNew w _) Tryd.underlying33 rfl (by kernel_rfl)) rfl ?_
          unfold TkPost
          rw [HX.out]
          exact ⟨rfl, HB0.out _⟩
        · have hz2 : (((R : Nat) : Int) == 0) = false := by rw [beq_eq_false_iff_ne]; omega
          rw [if_neg (by omega)] at HX
          go_wp2_with fail
          refine HH.out.mono ?_
          rintro e w1 ⟨rfl, rfl⟩
          go_wp2_with fail
          go_region
          go_wp2_with fail
          refine bodyPost_ret (results_cell_row3x rfl _ _ w.heap.size _ _ _ _ rfl (rowNew w _) Tryd.underlying33 rfl (by kernel_rfl)) rfl ?_
          unfold TkPost
          rw [HX.out]
          exact ⟨rfl, (HB0.out _).drew⟩
      · clear hB0 hcs2
        rcases hz with rfl | hz
        · rw [if_pos rfl] at HX
          obtain rfl : s = [] := List.length_eq_zero_iff.1 hi.symm
          clear HL HR HG hig hiR hi
          go_wp2_with fail
          refine bodyPost_ret (results_cell_row3x rfl _ _ w.heap.size _ _ _ _ rfl (rowNew w _) Tryd.underlying33 rfl (by kernel_rfl)) rfl ?_
          unfold TkPost
          rw [HX.out]
          exact ⟨rfl, HB0.out _⟩
        · rw [if_neg (by omega), hi, List.take_length, List.drop_length] at HX
          have hz2 : (((s.length : Nat) : Int) == 0) = false := by rw [beq_eq_false_iff_ne]; omega
          subst hi
          clear HL HR HG hig hiR
          go_wp2_with fail
          go_region
          go_wp2_with fail
          refine bodyPost_ret (results_cell_row3x rfl _ _ w.heap.size _ _ _ _ rfl (rowNew w _) Tryd.underlying33 rfl (by kernel_rfl)) rfl ?_
          unfold TkPost
          rw [HX.out]
          exact ⟨rfl, (HB0.out _).drew⟩
end Go.Proofs.YtkobjbmjefkmgaaDoor
