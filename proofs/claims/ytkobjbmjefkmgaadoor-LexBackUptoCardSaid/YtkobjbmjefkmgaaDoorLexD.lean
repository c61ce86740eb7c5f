/- The document's next, walked. -/
import Derived.Test.YtkobjbmjefkmgaaDoorLexC
import Derived.Test.YtkobjbmjefkmgaaDoorLexQ
namespace Go.Proofs.YtkobjbmjefkmgaaDoor
open Go.ChangeShapes Go.WideShapes Go.ChangeAt Go.RowKit K L14
set_option linter.unusedVariables false

theorem results_cell_row2x {P : Program} {fn : Func} {p u : Tmp} {ty : TypeId} (h : fn.results = #[.cell p ty, .tmp u]) (tmps : Array Value) (w : World) (g : Nat) (t : TypeId) (cs : Array Value) (fr : Nat × Nat) (d : TypeDesc)
    (hp : tmps.getD p undef = .pointer (some ⟨g, 0, none⟩)) (hg : w.heap[g]? = some (.cells cs t fr))
    (hu : P.underlying ty = some d) (hd : (match d with | .struct _ | .array _ _ => true | _ => false) = true) (hi : (P.info? ty).map (·.size) = some cs.size) :
    (results fn tmps).run P w = .ok (.tuple #[.agg cs, tmps.getD u undef]) w := by
  have hp' : tmps[p]?.getD undef = .pointer (some ⟨g, 0, none⟩) := by simpa using hp
  simp [results, h, hp', asAddr, run_loadVar_row w g t ty cs fr d hg hu hd hi]
/-- What next answers. -/
def nxK (s : List UInt8) : Nat := match nxt s with | some ((k, _), _) => k | none => 0
def nxT (s : List UInt8) : List UInt8 := match nxt s with | some ((_, t), _) => t | none => []
def nxN (s : List UInt8) : Nat := match nxt s with | some (_, n) => n | none => 0
theorem nx_some {s : List UInt8} {k : Nat} {t : List UInt8} {n : Nat} (h : nxt s = some ((k, t), n)) : nxK s = k ∧ nxT s = t ∧ nxN s = n := by
  unfold nxK nxT nxN; rw [h]; exact ⟨rfl, rfl, rfl⟩
theorem nx_none {s : List UInt8} (h : nxt s = none) : nxK s = 0 ∧ nxT s = [] ∧ nxN s = 0 := by
  unfold nxK nxT nxN; rw [h]; exact ⟨rfl, rfl, rfl⟩
/-- A token's three cells. -/
def Tr3 (k : Nat) (t : ByteArray) : Array Value := #[.int .i64 (k : Nat), .string t, .int .i64 0]
theorem three_sets {w : World} {q : Nat} {T : TypeId} {a b c : Value} (h : w.heap[q]? = some (.cells #[a, b, c] T (0, 0))) (x y z : Value) : (((w.setCell ⟨q, 0, none⟩ x).setCell ⟨q, 1, none⟩ y).setCell ⟨q, 2, none⟩ z).heap[q]? = some (.cells #[x, y, z] T (0, 0)) :=
  rowSet (rowSet (rowSet h 0 x) 1 y) 2 z
theorem below3 {B q : Nat} {y w : World} (h : Below B y w) (hq : B ≤ q) (a b c : Value) : Below B y (((w.setCell ⟨q, 0, none⟩ a).setCell ⟨q, 1, none⟩ b).setCell ⟨q, 2, none⟩ c) :=
  ((h.setCell (p := ⟨q, 0, none⟩) hq a).setCell (p := ⟨q, 1, none⟩) hq b).setCell (p := ⟨q, 2, none⟩) hq c
theorem cut1_run (l : List UInt8) (n : Nat) (h : 1 + n ≤ l.length) : ∀ w, (Instr.slice 9 (.string (bs l)) (some (.int .i64 1)) (some (.int .i64 (1 + (n : Int)))) none).run Tryd.prog w = .ok (.string (bs ((l.drop 1).take n))) w := by
  intro w
  rw [run_slice_string w 9 _ .i64 .i64 _ _ Tryd.underlying9 (by omega) (by omega) (by rw [bs_size]; omega)]
  rw [show ((1 : Int)).toNat = 1 by rfl, show ((1 : Int) + (n : Int)).toNat = 1 + n by omega, bs_extract, Nat.add_sub_cancel_left]
def NxPost (s : List UInt8) (w : World) (e : Ending) (w' : World) : Prop := e = .returned (.tuple #[.agg #[.int .i64 (nxK s : Nat), .string (bs (nxT s)), .int .i64 0], .int .i64 (nxN s : Nat)]) ∧ Below w.heap.size w w'
set_option maxRecDepth 100000 in
set_option maxHeartbeats 1000000 in
theorem qnext_walk (c : UInt8) (r : List UInt8) (hs : (c :: r).length ≤ 1000000) (w : World) : Calls Tryd.prog 23 #[.string (bs (c :: r))] w (NxPost (c :: r) w) := by
  have hR0 := rowNew w (.cells #[.int .i64 0, .string { data := #[] }, .int .i64 0] 52)
  have b0 := (Below.refl w.heap.size w).alloc (Nat.le_refl _) (.cells #[.int .i64 0, .string { data := #[] }, .int .i64 0] 52)
  have HS := Lib.hid (show ∀ w1, Calls Tryd.prog 44 #[.string (bs ((c :: r).take 1))] w1 fun e w' => e = .returned (.bool (sgN c.toNat)) ∧ w1 = w' from fun w1 => qissign_walk c w1)
  have HL := Lib.hid (fun w1 => qletter_walk (byt (c :: r) 0) (byt_lt _ _) w1)
  have HD := Lib.hid (fun w1 => qdigit_walk (byt (c :: r) 0) (byt_lt _ _) w1)
  have hby : byt (c :: r) 0 = c.toNat := rfl
  have hpos : 0 < (c :: r).length := by simp
  have hpos1 : 1 ≤ (c :: r).length := by simp
  have HR0 := Lib.hid hR0
  have HB0 := Lib.hid b0
  clear hR0 b0
  cases h1 : sgN c.toNat
  rotate_left
  · rw [h1] at HS
    have HX := Lib.hid (nx_some (show nxt (c :: r) = some ((5, (c :: r).take 1), 1) by simp only [nxt]; rw [if_pos h1]; rfl))
    clear h1 hby
    generalize c :: r = s at *
    go_enter Tryd.func23, Tryd.ntmps23
    go_wp2_with fail
    refine (HS.out _).mono ?_
    rintro e w1 ⟨rfl, rfl⟩
    go_wp2_with fail
    refine bodyPost_ret (results_cell_row2x rfl _ _ w.heap.size _ _ _ _ rfl (rowNew w _) Tryd.underlying52 rfl (by kernel_rfl)) rfl ?_
    unfold NxPost
    rw [HX.out.1, HX.out.2.1, HX.out.2.2]
    exact ⟨rfl, (Below.refl _ _).alloc (Nat.le_refl _) _⟩
  rw [h1] at HS
  cases h2 : ltN c.toNat
  rotate_left
  · rw [hby, h2] at HL
    obtain ⟨n, hn⟩ : ∃ n, L14.run 1 (c :: r) = n := ⟨_, rfl⟩
    have hnl := run_le 1 (c :: r)
    have hru := fun w1 => qrun_walk 1 (.inl rfl) (c :: r) hs w1
    rw [hn] at hru hnl
    have HRU := Lib.hid hru
    have HX := Lib.hid (nx_some (show nxt (c :: r) = some ((1, (c :: r).take n), n) by simp only [nxt]; rw [if_neg (by rw [h1]; decide), if_pos h2, hn]))
    rw [← hby] at HL
    clear h1 h2 hby hn hru
    generalize c :: r = s at *
    go_enter Tryd.func23, Tryd.ntmps23
    go_wp2_with fail
    refine (HS.out _).mono ?_
    rintro e w1 ⟨rfl, rfl⟩
    go_wp2_with fail
    refine (HL.out _).mono ?_
    rintro e w1 ⟨rfl, rfl⟩
    go_wp2_with fail
    refine (HRU.out _).mono ?_
    rintro e w1 ⟨rfl, rfl⟩
    go_wp2_with fail
    refine bodyPost_ret (results_cell_row2x rfl _ _ w.heap.size _ _ _ _ rfl (rowNew w _) Tryd.underlying52 rfl (by kernel_rfl)) rfl ?_
    unfold NxPost
    rw [HX.out.1, HX.out.2.1, HX.out.2.2]
    exact ⟨rfl, (Below.refl _ _).alloc (Nat.le_refl _) _⟩
  rw [hby, h2, ← hby] at HL
  cases h3 : dgN c.toNat
  rotate_left
  · rw [hby, h3] at HD
    obtain ⟨n, hn⟩ : ∃ n, L14.run 2 (c :: r) = n := ⟨_, rfl⟩
    have hnl := run_le 2 (c :: r)
    have hru := fun w1 => qrun_walk 2 (.inr (.inl rfl)) (c :: r) hs w1
    rw [hn] at hru hnl
    have HRU := Lib.hid hru
    have HX := Lib.hid (nx_some (show nxt (c :: r) = some ((2, (c :: r).take n), n) by simp only [nxt]; rw [if_neg (by rw [h1]; decide), if_neg (by rw [h2]; decide), if_pos h3, hn]))
    rw [← hby] at HD
    clear h1 h2 h3 hby hn hru
    generalize c :: r = s at *
    go_enter Tryd.func23, Tryd.ntmps23
    go_wp2_with fail
    refine (HS.out _).mono ?_
    rintro e w1 ⟨rfl, rfl⟩
    go_wp2_with fail
    refine (HL.out _).mono ?_
    rintro e w1 ⟨rfl, rfl⟩
    go_wp2_with fail
    refine (HD.out _).mono ?_
    rintro e w1 ⟨rfl, rfl⟩
    go_wp2_with fail
    refine (HRU.out _).mono ?_
    rintro e w1 ⟨rfl, rfl⟩
    go_wp2_with fail
    refine bodyPost_ret (results_cell_row2x rfl _ _ w.heap.size _ _ _ _ rfl (rowNew w _) Tryd.underlying52 rfl (by kernel_rfl)) rfl ?_
    unfold NxPost
    rw [HX.out.1, HX.out.2.1, HX.out.2.2]
    exact ⟨rfl, (Below.refl _ _).alloc (Nat.le_refl _) _⟩
  rw [hby, h3, ← hby] at HD
  by_cases c4 : c = 36
  · have hb36 : byt (c :: r) 0 = 36 := by rw [hby, c4]; rfl
    clear HL HD
    have HL := Lib.hid (show ∀ w1, Calls Tryd.prog 45 #[.int .u8 36] w1 fun e w' => e = .returned (.bool false) ∧ w1 = w' from fun w1 => qletter_walk 36 (by decide) w1)
    have HD := Lib.hid (show ∀ w1, Calls Tryd.prog 47 #[.int .u8 36] w1 fun e w' => e = .returned (.bool false) ∧ w1 = w' from fun w1 => qdigit_walk 36 (by decide) w1)
    obtain ⟨n, hn⟩ : ∃ n, L14.run 3 r = n := ⟨_, rfl⟩
    have hnl := run_le 3 r
    have hrl : (c :: r).length = r.length + 1 := by simp
    have hru : ∀ w1, Calls Tryd.prog 46 #[.int .i64 3, .string (bs (c :: r).tail)] w1 fun e w' => e = .returned (.int .i64 (n : Nat)) ∧ w1 = w' := fun w1 => by rw [← hn]; exact qrun_walk 3 (.inr (.inr rfl)) r (by omega) w1
    rw [hn] at hnl
    have HRU := Lib.hid hru
    have hnx : nxt (c :: r) = if n = 0 then none else some ((3, r.take n), n + 1) := by
      simp only [nxt]
      rw [if_neg (by rw [h1]; decide), if_neg (by rw [h2]; decide), if_neg (by rw [h3]; decide), if_pos c4, hn]
    by_cases hn0 : n = 0
    · subst hn0
      have HX := Lib.hid (nx_none (show nxt (c :: r) = none by rw [hnx]; rfl))
      clear h1 h2 h3 c4 hby hn hru hnx hrl
      generalize c :: r = s at *
      go_enter Tryd.func23, Tryd.ntmps23
      go_wp2_with fail
      refine (HS.out _).mono ?_
      rintro e w1 ⟨rfl, rfl⟩
      go_wp2_with fail
      refine (HL.out _).mono ?_
      rintro e w1 ⟨rfl, rfl⟩
      go_wp2_with fail
      refine (HD.out _).mono ?_
      rintro e w1 ⟨rfl, rfl⟩
      go_wp2_with fail
      refine (HRU.out _).mono ?_
      rintro e w1 ⟨rfl, rfl⟩
      go_wp2_with fail
      refine bodyPost_ret (results_cell_row2x rfl _ _ w.heap.size _ _ _ _ rfl (rowNew w _) Tryd.underlying52 rfl (by kernel_rfl)) rfl ?_
      unfold NxPost
      rw [HX.out.1, HX.out.2.1, HX.out.2.2]
      exact ⟨rfl, (Below.refl _ _).alloc (Nat.le_refl _) _⟩
    · have hnn : (((n : Nat) : Int) == 0) = false := by rw [beq_eq_false_iff_ne]; omega
      have hnl2 : 1 + n ≤ (c :: r).length := by omega
      have HX := Lib.hid (nx_some (show nxt (c :: r) = some ((3, (c :: r).tail.take n), n + 1) by rw [hnx, if_neg hn0]; rfl))
      have hsl := cut1_run (c :: r) n hnl2
      rw [show (c :: r).drop 1 = (c :: r).tail from rfl] at hsl
      clear h1 h2 h3 c4 hby hn hru hnx hrl hnl
      generalize c :: r = s at *
      go_enter Tryd.func23, Tryd.ntmps23
      go_wp2_with fail
      refine (HS.out _).mono ?_
      rintro e w1 ⟨rfl, rfl⟩
      go_wp2_with fail
      refine (HL.out _).mono ?_
      rintro e w1 ⟨rfl, rfl⟩
      go_wp2_with fail
      refine (HD.out _).mono ?_
      rintro e w1 ⟨rfl, rfl⟩
      go_wp2_with fail
      refine (HRU.out _).mono ?_
      rintro e w1 ⟨rfl, rfl⟩
      go_wp2_with fail
      have HNC := Lib.hid (show (((n + 1 : Nat)) : Int) = 1 + (n : Int) by omega)
      refine bodyPost_ret (results_cell_row2x rfl _ _ w.heap.size _ _ _ _ rfl (rowNew w _) Tryd.underlying52 rfl (by kernel_rfl)) rfl ?_
      unfold NxPost
      rw [HX.out.1, HX.out.2.1, HX.out.2.2, HNC.out]
      exact ⟨rfl, (Below.refl _ _).alloc (Nat.le_refl _) _⟩
  by_cases c5 : c = 34
  · have hb34 : byt (c :: r) 0 = 34 := by rw [hby, c5]; rfl
    clear HL HD
    have HL := Lib.hid (show ∀ w1, Calls Tryd.prog 45 #[.int .u8 34] w1 fun e w' => e = .returned (.bool false) ∧ w1 = w' from fun w1 => qletter_walk 34 (by decide) w1)
    have HD := Lib.hid (show ∀ w1, Calls Tryd.prog 47 #[.int .u8 34] w1 fun e w' => e = .returned (.bool false) ∧ w1 = w' from fun w1 => qdigit_walk 34 (by decide) w1)
    have hrl : (c :: r).length = r.length + 1 := by simp
    have htx : ∀ w1, Calls Tryd.prog 48 #[.string (bs (c :: r).tail)] w1 fun e w' => e = .returned (.tuple #[.string (bs (txS r)), .int .i64 (txN r : Nat)]) ∧ Below w1.heap.size w1 w' := fun w1 => qtext_walk r (by omega) w1
    have hnx : nxt (c :: r) = (L14.text r).map fun y => ((4, y.1), y.2 + 1) := by
      simp only [nxt]
      rw [if_neg (by rw [h1]; decide), if_neg (by rw [h2]; decide), if_neg (by rw [h3]; decide), if_neg c4, if_pos c5]
    cases hx : L14.text r with
    | none =>
      have e1 : txS r = [] ∧ txN r = 0 := by unfold txS txN; rw [hx]; exact ⟨rfl, rfl⟩
      rw [e1.1, e1.2] at htx
      have HTX := Lib.hid htx
      have HX := Lib.hid (nx_none (show nxt (c :: r) = none by rw [hnx, hx]; rfl))
      clear h1 h2 h3 c4 c5 hby htx hnx hx e1 hrl
      generalize c :: r = s at *
      go_enter Tryd.func23, Tryd.ntmps23
      go_wp2_with fail
      refine (HS.out _).mono ?_
      rintro e w1 ⟨rfl, rfl⟩
      go_wp2_with fail
      refine (HL.out _).mono ?_
      rintro e w1 ⟨rfl, rfl⟩
      go_wp2_with fail
      refine (HD.out _).mono ?_
      rintro e w1 ⟨rfl, rfl⟩
      go_wp2_with fail
      refine (HTX.out _).mono ?_
      rintro e w1 ⟨rfl, k1⟩
      have hQ := (k1.block w.heap.size (by simp)).trans HR0.out
      have HB1 := Lib.hid (HB0.out.trans (k1.mono HB0.out.size))
      have z0 := cellRow hQ 0; have z1 := cellRow hQ 1; have z2 := cellRow hQ 2
      have g0 := freeRow hQ 0; have g1 := freeRow hQ 1; have g2 := freeRow hQ 2
      have HQ := Lib.hid hQ
      clear k1 hQ
      go_wp2_with fail
      have PX := three_sets HQ.out (.int .i64 0) (.string (bs [])) (.int .i64 0)
      refine bodyPost_ret (results_cell_row2x rfl _ _ w.heap.size _ _ _ _ rfl PX Tryd.underlying52 rfl (by kernel_rfl)) rfl ?_
      unfold NxPost
      rw [HX.out.1, HX.out.2.1, HX.out.2.2]
      exact ⟨rfl, below3 HB1.out (Nat.le_refl _) _ _ _⟩
    | some y =>
      obtain ⟨o, n⟩ := y
      have hn := text_n hx
      obtain ⟨hn1, hn2⟩ := hn
      have e1 : txS r = o ∧ txN r = n := by unfold txS txN; rw [hx]; exact ⟨rfl, rfl⟩
      rw [e1.1, e1.2] at htx
      have HTX := Lib.hid htx
      have HX := Lib.hid (nx_some (show nxt (c :: r) = some ((4, o), n + 1) by rw [hnx, hx]; rfl))
      have hnn : (((n : Nat) : Int) == 0) = false := by rw [beq_eq_false_iff_ne]; omega
      have hnb : ((n : Nat) : Int) ≤ 1000000 := by omega
      have HNC := Lib.hid (show (((n + 1 : Nat)) : Int) = 1 + (n : Int) by omega)
      clear h1 h2 h3 c4 c5 hby htx hnx hx e1 hrl hn1 hn2
      generalize c :: r = s at *
      go_enter Tryd.func23, Tryd.ntmps23
      go_wp2_with fail
      refine (HS.out _).mono ?_
      rintro e w1 ⟨rfl, rfl⟩
      go_wp2_with fail
      refine (HL.out _).mono ?_
      rintro e w1 ⟨rfl, rfl⟩
      go_wp2_with fail
      refine (HD.out _).mono ?_
      rintro e w1 ⟨rfl, rfl⟩
      go_wp2_with fail
      refine (HTX.out _).mono ?_
      rintro e w1 ⟨rfl, k1⟩
      have hQ := (k1.block w.heap.size (by simp)).trans HR0.out
      have HB1 := Lib.hid (HB0.out.trans (k1.mono HB0.out.size))
      have z0 := cellRow hQ 0; have z1 := cellRow hQ 1; have z2 := cellRow hQ 2
      have g0 := freeRow hQ 0; have g1 := freeRow hQ 1; have g2 := freeRow hQ 2
      have HQ := Lib.hid hQ
      clear k1 hQ
      go_wp2_with fail
      have PX := three_sets HQ.out (.int .i64 4) (.string (bs o)) (.int .i64 0)
      refine bodyPost_ret (results_cell_row2x rfl _ _ w.heap.size _ _ _ _ rfl PX Tryd.underlying52 rfl (by kernel_rfl)) rfl ?_
      unfold NxPost
      rw [HX.out.1, HX.out.2.1, HX.out.2.2, HNC.out]
      exact ⟨rfl, below3 HB1.out (Nat.le_refl _) _ _ _⟩
  · have hcn : ∀ k : Nat, k < 256 → c ≠ UInt8.ofNat k → (((byt (c :: r) 0 : Nat) : Int) == (k : Int)) = false := fun k hk hne => by
      rw [beq_eq_false_iff_ne]
      intro e
      apply hne
      apply UInt8.toNat_inj.1
      rw [UInt8.toNat_ofNat']
      rw [hby] at e
      omega
    have q4 := hcn 36 (by decide) c4
    have q5 := hcn 34 (by decide) c5
    have HX := Lib.hid (nx_none (show nxt (c :: r) = none by
      simp only [nxt]
      rw [if_neg (by rw [h1]; decide), if_neg (by rw [h2]; decide), if_neg (by rw [h3]; decide), if_neg c4, if_neg c5]))
    clear h1 h2 h3 c4 c5 hby hcn
    generalize c :: r = s at *
    go_enter Tryd.func23, Tryd.ntmps23
    go_wp2_with fail
    refine (HS.out _).mono ?_
    rintro e w1 ⟨rfl, rfl⟩
    go_wp2_with fail
    refine (HL.out _).mono ?_
    rintro e w1 ⟨rfl, rfl⟩
    go_wp2_with fail
    refine (HD.out _).mono ?_
    rintro e w1 ⟨rfl, rfl⟩
    go_wp2_with fail
    refine bodyPost_ret (results_cell_row2x rfl _ _ w.heap.size _ _ _ _ rfl (rowNew w _) Tryd.underlying52 rfl (by kernel_rfl)) rfl ?_
    unfold NxPost
    rw [HX.out.1, HX.out.2.1, HX.out.2.2]
    exact ⟨rfl, (Below.refl _ _).alloc (Nat.le_refl _) _⟩
end Go.Proofs.YtkobjbmjefkmgaaDoor
