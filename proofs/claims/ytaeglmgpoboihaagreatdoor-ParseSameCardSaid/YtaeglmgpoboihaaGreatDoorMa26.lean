/- Texts on the program and on the document, joined: LxqA, LxqB, LxqE, Blw. -/
import Derived.Test.YtaeglmgpoboihaaGreatDoorMa01
import Derived.Test.YtaeglmgpoboihaaGreatDoorRows
import Derived.WalkKit
import Derived.ProofKit
import Derived.OpenShut
import Derived.ShutString
import Derived.Deep.LoopGhost
import Derived.Test.YtaeglmgpoboihaaGreatDoorShelf
import Derived.Test.YtaeglmgpoboihaaGreatDoorMa07
import Derived.Test.YtaeglmgpoboihaaGreatDoorMa04
import Derived.Deep.RegionHeld3
import Derived.Deep.RegionWith
import Derived.RegionTactic
/- The program's isLetter and isDigit, walked. gen_lxqa.py writes it. -/
namespace Go.Proofs.YtaeglmgpoboihaaGreatDoor
open Go.ChangeShapes Go.WideShapes Go.ChangeAt Go.RowKit K L14
set_option linter.unusedVariables false

set_option maxRecDepth 100000 in
theorem lletter_walk (n : Nat) (hn : n < 256) (w : World) : Calls Tryz.prog 36 #[.int .u8 (n : Nat)] w fun e w' => e = .returned (.bool (ltN n)) ∧ w = w' := by
  obtain hc | hc | hc | hc | hc : n ≤ 64 ∨ (65 ≤ n ∧ n ≤ 90) ∨ (91 ≤ n ∧ n ≤ 96) ∨ (97 ≤ n ∧ n ≤ 122) ∨ 123 ≤ n := by omega
  · have HN := Lib.hid (show ltN n = false by simp [ltN]; omega)
    have g0 : ¬ (65 : Int) ≤ ((n : Nat) : Int) := by omega
    have g1 : ¬ (97 : Int) ≤ ((n : Nat) : Int) := by omega
    clear hn hc
    go_enter Tryz.func36, Tryz.ntmps36
    go_wp2
    go_ret
    rw [HN.out]
    exact ⟨rfl, rfl⟩
  · have HN := Lib.hid (show ltN n = true by simp [ltN]; omega)
    have g0 : (65 : Int) ≤ ((n : Nat) : Int) := by omega
    have g1 : ((n : Nat) : Int) ≤ 90 := by omega
    clear hn hc
    go_enter Tryz.func36, Tryz.ntmps36
    go_wp2
    go_ret
    rw [HN.out]
    exact ⟨rfl, rfl⟩
  · have HN := Lib.hid (show ltN n = false by simp [ltN]; omega)
    have g0 : (65 : Int) ≤ ((n : Nat) : Int) := by omega
    have g1 : ¬ ((n : Nat) : Int) ≤ 90 := by omega
    have g2 : ¬ (97 : Int) ≤ ((n : Nat) : Int) := by omega
    clear hn hc
    go_enter Tryz.func36, Tryz.ntmps36
    go_wp2
    go_ret
    rw [HN.out]
    exact ⟨rfl, rfl⟩
  · have HN := Lib.hid (show ltN n = true by simp [ltN]; omega)
    have g0 : (65 : Int) ≤ ((n : Nat) : Int) := by omega
    have g1 : ¬ ((n : Nat) : Int) ≤ 90 := by omega
    have g2 : (97 : Int) ≤ ((n : Nat) : Int) := by omega
    have g3 : ((n : Nat) : Int) ≤ 122 := by omega
    clear hn hc
    go_enter Tryz.func36, Tryz.ntmps36
    go_wp2
    go_ret
    rw [HN.out]
    exact ⟨rfl, rfl⟩
  · have HN := Lib.hid (show ltN n = false by simp [ltN]; omega)
    have g0 : (65 : Int) ≤ ((n : Nat) : Int) := by omega
    have g1 : ¬ ((n : Nat) : Int) ≤ 90 := by omega
    have g2 : (97 : Int) ≤ ((n : Nat) : Int) := by omega
    have g3 : ¬ ((n : Nat) : Int) ≤ 122 := by omega
    clear hn hc
    go_enter Tryz.func36, Tryz.ntmps36
    go_wp2
    go_ret
    rw [HN.out]
    exact ⟨rfl, rfl⟩
set_option maxRecDepth 100000 in
theorem ldigit_walk (n : Nat) (hn : n < 256) (w : World) : Calls Tryz.prog 39 #[.int .u8 (n : Nat)] w fun e w' => e = .returned (.bool (dgN n)) ∧ w = w' := by
  obtain hc | hc | hc : n ≤ 47 ∨ (48 ≤ n ∧ n ≤ 57) ∨ 58 ≤ n := by omega
  · have HN := Lib.hid (show dgN n = false by simp [dgN]; omega)
    have g0 : ¬ (48 : Int) ≤ ((n : Nat) : Int) := by omega
    clear hn hc
    go_enter Tryz.func39, Tryz.ntmps39
    go_wp2
    go_ret
    rw [HN.out]
    exact ⟨rfl, rfl⟩
  · have HN := Lib.hid (show dgN n = true by simp [dgN]; omega)
    have g0 : (48 : Int) ≤ ((n : Nat) : Int) := by omega
    have g1 : ((n : Nat) : Int) ≤ 57 := by omega
    clear hn hc
    go_enter Tryz.func39, Tryz.ntmps39
    go_wp2
    go_ret
    rw [HN.out]
    exact ⟨rfl, rfl⟩
  · have HN := Lib.hid (show dgN n = false by simp [dgN]; omega)
    have g0 : (48 : Int) ≤ ((n : Nat) : Int) := by omega
    have g1 : ¬ ((n : Nat) : Int) ≤ 57 := by omega
    clear hn hc
    go_enter Tryz.func39, Tryz.ntmps39
    go_wp2
    go_ret
    rw [HN.out]
    exact ⟨rfl, rfl⟩
end Go.Proofs.YtaeglmgpoboihaaGreatDoor
/- The program's isOne and goOn, walked. -/
namespace Go.Proofs.YtaeglmgpoboihaaGreatDoor
open Go.ChangeShapes Go.WideShapes Go.ChangeAt Go.RowKit K L14
set_option linter.unusedVariables false

theorem ix_has : ∀ (l : List UInt8) (c : UInt8), decide (0 ≤ Lib.indexByte l c) = l.contains c
  | [], c => rfl
  | b :: l, c => by
    have ih := ix_has l c
    have hge := Lib.indexByte_ge l c
    unfold Lib.indexByte
    by_cases h : b = c
    · subst h; simp
    · have hb : (b == c) = false := by simpa using h
      have hcb : (c == b) = false := by rw [beq_eq_false_iff_ne]; exact fun e => h e.symm
      rw [List.contains_cons, hcb, Bool.false_or, ← ih, if_neg (by rw [hb]; decide)]
      by_cases h1 : Lib.indexByte l c = -1
      · rw [if_pos (by rw [h1]; rfl), h1]
      · rw [if_neg (by simpa using h1)]
        exact decide_eq_decide.2 (by omega)
set_option maxRecDepth 100000 in
theorem lone_walk (n : Nat) (l : List UInt8) (w : World) : Calls Tryz.prog 41 #[.int .u8 (n : Nat), .string (bs l)] w fun e w' => e = .returned (.bool (l.contains (UInt8.ofNat n))) ∧ w = w' := by
  have hc := Tryz.strings_IndexByte (bs l) (n : Nat) w
  rw [bs_toList, show ((n : Nat) : Int).toNat.toUInt8 = UInt8.ofNat n from rfl] at hc
  have HC := Lib.hid hc
  have HX := Lib.hid (ix_has l (UInt8.ofNat n))
  generalize Lib.indexByte l (UInt8.ofNat n) = r at *
  clear hc
  go_enter Tryz.func41, Tryz.ntmps41
  go_wp2_with fail
  refine HC.out.mono ?_
  rintro e w1 ⟨rfl, rfl⟩
  go_wp2
  go_ret
  exact ⟨by rw [← HX.out]; rfl, rfl⟩
/-- The bytes that go on with a token of a kind, beside letters and digits. -/
def mks (k : Nat) : List UInt8 := if k = 1 then [95, 45] else if k = 2 then [46] else [46, 95, 45, 35, 64]
theorem go_mks1 : ∀ n : Fin 256, goN 1 n.val = (ltN n.val || dgN n.val || (mks 1).contains (UInt8.ofNat n.val)) := by decide +kernel
theorem go_mks2 : ∀ n : Fin 256, goN 2 n.val = (ltN n.val || dgN n.val || (mks 2).contains (UInt8.ofNat n.val)) := by decide +kernel
theorem go_mks3 : ∀ n : Fin 256, goN 3 n.val = (ltN n.val || dgN n.val || (mks 3).contains (UInt8.ofNat n.val)) := by decide +kernel
theorem go_mks {k : Nat} (hk : k = 1 ∨ k = 2 ∨ k = 3) {n : Nat} (hn : n < 256) : goN k n = (ltN n || dgN n || (mks k).contains (UInt8.ofNat n)) := by
  rcases hk with rfl | rfl | rfl
  · exact go_mks1 ⟨n, hn⟩
  · exact go_mks2 ⟨n, hn⟩
  · exact go_mks3 ⟨n, hn⟩
set_option maxRecDepth 100000 in
theorem lgo_walk (k : Nat) (hk : k = 1 ∨ k = 2 ∨ k = 3) (n : Nat) (hn : n < 256) (w : World) : Calls Tryz.prog 38 #[.string (bs (mks k)), .int .u8 (n : Nat)] w fun e w' => e = .returned (.bool (goN k n)) ∧ w = w' := by
  rw [go_mks hk hn]
  have HL := Lib.hid (fun w1 => lletter_walk n hn w1)
  have HD := Lib.hid (fun w1 => ldigit_walk n hn w1)
  have HO := Lib.hid (fun w1 => lone_walk n (mks k) w1)
  generalize (mks k).contains (UInt8.ofNat n) = bo at *
  generalize mks k = M at *
  clear hk
  cases h1 : ltN n
  · rw [h1] at HL
    cases h2 : dgN n
    · rw [h2] at HD
      clear h1 h2 hn
      go_enter Tryz.func38, Tryz.ntmps38
      go_wp2_with fail
      refine (HL.out _).mono ?_
      rintro e w1 ⟨rfl, rfl⟩
      go_wp2_with fail
      refine (HD.out _).mono ?_
      rintro e w1 ⟨rfl, rfl⟩
      go_wp2_with fail
      refine (HO.out _).mono ?_
      rintro e w1 ⟨rfl, rfl⟩
      go_wp2
      go_ret
      exact ⟨rfl, rfl⟩
    · rw [h2] at HD
      clear h1 h2 hn
      go_enter Tryz.func38, Tryz.ntmps38
      go_wp2_with fail
      refine (HL.out _).mono ?_
      rintro e w1 ⟨rfl, rfl⟩
      go_wp2_with fail
      refine (HD.out _).mono ?_
      rintro e w1 ⟨rfl, rfl⟩
      go_wp2
      go_ret
      exact ⟨rfl, rfl⟩
  · rw [h1] at HL
    clear h1 hn
    go_enter Tryz.func38, Tryz.ntmps38
    go_wp2_with fail
    refine (HL.out _).mono ?_
    rintro e w1 ⟨rfl, rfl⟩
    go_wp2
    go_ret
    exact ⟨rfl, rfl⟩
end Go.Proofs.YtaeglmgpoboihaaGreatDoor
/- The program's run, walked. -/
namespace Go.Proofs.YtaeglmgpoboihaaGreatDoor
open Go.ChangeShapes Go.WideShapes Go.ChangeAt Go.RowKit K L14
set_option linter.unusedVariables false

theorem results_cell_row3x {P : Program} {fn : Func} {p u v : Tmp} {ty : TypeId} (h : fn.results = #[.cell p ty, .tmp u, .tmp v]) (tmps : Array Value) (w : World) (g : Nat) (t : TypeId) (cs : Array Value) (fr : Nat × Nat) (d : TypeDesc)
    (hp : tmps.getD p undef = .pointer (some ⟨g, 0, none⟩)) (hg : w.heap[g]? = some (.cells cs t fr))
    (hu : P.underlying ty = some d) (hd : (match d with | .struct _ | .array _ _ => true | _ => false) = true) (hi : (P.info? ty).map (·.size) = some cs.size) :
    (results fn tmps).run P w = .ok (.tuple #[.agg cs, tmps.getD u undef, tmps.getD v undef]) w := by
  have hp' : tmps[p]?.getD undef = .pointer (some ⟨g, 0, none⟩) := by simpa using hp
  simp [results, h, hp', asAddr, run_loadVar_row w g t ty cs fr d hg hu hd hi]
/-- A token, what stands behind it, and whether it is one. -/
def TkPost (o : Option ((Nat × List UInt8) × List UInt8)) (w : World) (e : Ending) (w' : World) : Prop :=
  (e = .returned (match o with | some ((k, t), r) => .tuple #[.agg #[.int .i64 (k : Nat), .string (bs t), .int .i64 0], .string (bs r), .bool true] | none => .tuple #[.agg #[.int .i64 0, .string (bs []), .int .i64 0], .string (bs []), .bool false])) ∧ Below w.heap.size w w'
/-- What run answers. -/
def rnP (k : Nat) (s : List UInt8) : Option ((Nat × List UInt8) × List UInt8) := if L14.run k s = 0 then none else some ((k, s.take (L14.run k s)), s.drop (L14.run k s))
def RnRel (s : List UInt8) (R : Nat) (W : World) (g : Nat) (v : Value) (wx : World) : Prop := wx = W ∧ ∃ i : Nat, i + g = s.length ∧ i ≤ R ∧ v = .int .i64 i
set_option maxRecDepth 100000 in
set_option maxHeartbeats 1000000 in
theorem lrun_walk (k : Nat) (hk : k = 1 ∨ k = 2 ∨ k = 3) (s : List UInt8) (hs : s.length ≤ 140737488351232) (w : World) :
    Calls Tryz.prog 37 #[.int .i64 (k : Nat), .string (bs s), .func (Fn.func 38) #[.string (bs (mks k))] #[]] w (TkPost (rnP k s) w) := by
  have HG := Lib.hid (fun n hn w1 => lgo_walk k hk n hn w1)
  have HR := Lib.hid (run_at k s)
  have HL := Lib.hid (run_le k s)
  generalize mks k = M at *
  clear hk
  obtain ⟨R, hR⟩ : ∃ R, L14.run k s = R := ⟨_, rfl⟩
  have HX := Lib.hid (show rnP k s = if R = 0 then none else some ((k, s.take R), s.drop R) by unfold rnP; rw [hR])
  rw [hR] at HR HL
  clear hR
  generalize rnP k s = O at *
  go_enter Tryz.func37, Tryz.ntmps37
  go_wp2
  go_loopg [9] s.length (fun g v9 wx => RnRel s R (w.alloc (.cells #[.int .i64 0, .string { data := #[] }, .int .i64 0] 72)) g v9 wx)
  case atStart => exact ⟨rfl, 0, by omega, by omega, rfl⟩
  case round =>
    obtain ⟨rfl, i, hig, hiR, rfl⟩ := hrel
    by_cases hgo : i < s.length ∧ i < R
    · obtain ⟨hi, hi3⟩ := hgo
      have hi2 : ((i : Nat) : Int) < ((s.length : Nat) : Int) := by omega
      have hb := byt_lt s i
      have H1 := HG.out (byt s i) hb (w.alloc (.cells #[.int .i64 0, .string { data := #[] }, .int .i64 0] 72))
      rw [(HR.out i hiR).1 hi, decide_eq_true hi3] at H1
      have HH := Lib.hid H1
      obtain ⟨G, rfl⟩ : ∃ G, gk = G + 1 := ⟨gk - 1, by omega⟩
      clear H1
      go_wp2_with fail
      refine HH.out.mono ?_
      rintro e w1 ⟨rfl, rfl⟩
      go_wp2
      go_roundg G
      case measure => omega
      case rel => exact ⟨rfl, i + 1, by omega, by omega, rfl⟩
    · have hiR2 : R = i := by
        by_cases hi : i < s.length
        · omega
        · have := (HR.out i hiR).2 (by omega); omega
      subst hiR2
      have hB0 := (Below.refl w.heap.size w).alloc (Nat.le_refl _) (.cells #[.int .i64 0, .string { data := #[] }, .int .i64 0] 72)
      have hcs : R < s.length ∨ R = s.length := by have := HL.out; omega
      have hz : R = 0 ∨ 0 < R := by omega
      clear hgo
      have HB0 := Lib.hid (fun X => (Below.refl w.heap.size w).alloc (Nat.le_refl _) X)
      have hR0 := rowNew w (.cells #[.int .i64 0, .string { data := #[] }, .int .i64 0] 72)
      have z0 := cellRow hR0 0
      have z1 := cellRow hR0 1
      have z2 := cellRow hR0 2
      have f0 := freeRow hR0 0
      have f1 := freeRow hR0 1
      have f2 := freeRow hR0 2
      have hcs2 : (∃ hb : byt s R < 256, R < s.length) ∨ R = s.length := by rcases hcs with h | h; exact .inl ⟨byt_lt s R, h⟩; exact .inr h
      rcases hcs with hi | hi
      · have hi2 : ((R : Nat) : Int) < ((s.length : Nat) : Int) := by omega
        have hb := byt_lt s R
        have H1 := HG.out (byt s R) hb (w.alloc (.cells #[.int .i64 0, .string { data := #[] }, .int .i64 0] 72))
        rw [(HR.out R hiR).1 hi, decide_eq_false (Nat.lt_irrefl R)] at H1
        have HH := Lib.hid H1
        clear H1 hB0 hcs2
        rcases hz with rfl | hz
        · rw [if_pos rfl] at HX
          go_wp2_with fail
          refine HH.out.mono ?_
          rintro e w1 ⟨rfl, rfl⟩
          go_wp2_with fail
          refine bodyPost_ret (results_cell_row3x rfl _ _ w.heap.size _ _ _ _ rfl (rowNew w _) Tryz.underlying72 rfl (by kernel_rfl)) rfl ?_
          unfold TkPost
          rw [HX.out]
          exact ⟨rfl, HB0.out _⟩
        · have hz2 : (((R : Nat) : Int) == 0) = false := by rw [beq_eq_false_iff_ne]; omega
          rw [if_neg (by omega)] at HX
          go_wp2_with fail
          refine HH.out.mono ?_
          rintro e w1 ⟨rfl, rfl⟩
          go_wp2_with fail
          go_region
          go_wp2_with fail
          refine bodyPost_ret (results_cell_row3x rfl _ _ w.heap.size _ _ _ _ rfl (rowNew w _) Tryz.underlying72 rfl (by kernel_rfl)) rfl ?_
          unfold TkPost
          rw [HX.out]
          exact ⟨rfl, (HB0.out _).drew⟩
      · clear hB0 hcs2
        rcases hz with rfl | hz
        · rw [if_pos rfl] at HX
          obtain rfl : s = [] := List.length_eq_zero_iff.1 hi.symm
          clear HL HR HG hig hiR hi
          go_wp2_with fail
          refine bodyPost_ret (results_cell_row3x rfl _ _ w.heap.size _ _ _ _ rfl (rowNew w _) Tryz.underlying72 rfl (by kernel_rfl)) rfl ?_
          unfold TkPost
          rw [HX.out]
          exact ⟨rfl, HB0.out _⟩
        · rw [if_neg (by omega), hi, List.take_length, List.drop_length] at HX
          have hz2 : (((s.length : Nat) : Int) == 0) = false := by rw [beq_eq_false_iff_ne]; omega
          subst hi
          clear HL HR HG hig hiR
          go_wp2_with fail
          go_region
          go_wp2_with fail
          refine bodyPost_ret (results_cell_row3x rfl _ _ w.heap.size _ _ _ _ rfl (rowNew w _) Tryz.underlying72 rfl (by kernel_rfl)) rfl ?_
          unfold TkPost
          rw [HX.out]
          exact ⟨rfl, (HB0.out _).drew⟩
end Go.Proofs.YtaeglmgpoboihaaGreatDoor
/- strings.Builder's WriteString, walked at this translation. -/
namespace Go.Proofs.YtaeglmgpoboihaaGreatDoor
open Go.ChangeShapes Go.WideShapes Go.ChangeAt Go.RowKit K
set_option linter.unusedVariables false

/-- A builder in block b, that has these bytes, with all that is its own behind B. -/
def Bld (B b : Nat) (l : List UInt8) (w : World) : Prop := Lib.IsBuilder 121 5 B b (Lib.byteCells l) w
theorem bytes_cells (l : List UInt8) : Lib.strCells (bs l) = Lib.byteCells l := by
  unfold Lib.strCells Lib.byteCells
  rw [bs_toList]
theorem cells_app (a b : List UInt8) : Lib.byteCells (a ++ b) = Lib.byteCells a ++ Lib.byteCells b := by
  unfold Lib.byteCells; rw [List.map_append]
theorem cells_len (a : List UInt8) : (Lib.byteCells a).length = a.length := by
  unfold Lib.byteCells; rw [List.length_map]

theorem info_b : (Tryz.prog.info? 121).map (·.size) = some 2 := by kernel_rfl
theorem info_u : (Tryz.prog.info? 5).map (fun i => (i.zero, i.size, i.bytes)) = some (some (.int .u8 0), 1, 1) := by kernel_rfl
set_option maxHeartbeats 1000000 in
set_option maxRecDepth 100000 in
theorem check_used (b : Nat) (w : World) (h0 : w.cell? ⟨b, 0, none⟩ = some (.pointer (some ⟨b, 0, none⟩))) :
    Calls Tryz.prog 88 #[.pointer (some ⟨b, 0, none⟩)] w fun e w' => e = .returned (.tuple #[]) ∧ w' = w := by
  obtain ⟨j, hj, _⟩ := Option.map_eq_some_iff.1 info_b
  go_enter Tryz.func88, Tryz.ntmps88
  go_wp2
  rw [Lib.run_neq_ptr_same w _ Tryz.underlying118 hj]
  go_wp2
  go_end0
  exact ⟨rfl, rfl⟩
set_option maxHeartbeats 1000000 in
set_option maxRecDepth 100000 in
theorem check_fresh (b : Nat) (w : World) (h0 : w.cell? ⟨b, 0, none⟩ = some (.pointer none)) (hsh : w.shape? b = some (121, 2)) (hfz : w.frozen? ⟨b, 0, none⟩ = false) :
    Calls Tryz.prog 88 #[.pointer (some ⟨b, 0, none⟩)] w fun e w' => e = .returned (.tuple #[]) ∧ w' = w.setCell ⟨b, 0, none⟩ (.pointer (some ⟨b, 0, none⟩)) := by
  obtain ⟨j, hj, hjs⟩ := Option.map_eq_some_iff.1 info_b
  go_enter Tryz.func88, Tryz.ntmps88
  go_wp2
  rw [Lib.run_to_unsafe w ⟨b, 0, none⟩ Tryz.underlying118 Tryz.underlying150 hj (by rw [hjs]; decide) hsh (Nat.zero_lt_succ 1)]
  simp only [Result.andThen]
  rw [Oper.upon_value]
  go_wp2
  rw [run_callFunc_extern Tryz.func96 (by kernel_rfl) (by kernel_rfl) (by kernel_rfl) (e := Extern.AbiNoEscape.same) (by kernel_rfl)]
  rw [Lib.run_noEscape]
  simp only [Result.andThen]
  rw [Oper.upon_value]
  go_wp2
  rw [Lib.run_from_unsafe w ⟨b, 0, none⟩ Tryz.underlying150 Tryz.underlying118 hj hsh (by kernel_rfl)]
  simp only [Result.andThen]
  rw [Oper.upon_value]
  go_wp2
  go_end0
  exact ⟨rfl, rfl⟩
/-- Blocks of another type than a builder's bytes, but for block b, are as they were. -/
def Oth (b : Nat) (w w' : World) : Prop := ∀ (k : Nat) (cs : Array Value) (T : TypeId) (fr : Nat × Nat), w.heap[k]? = some (.cells cs T fr) → T ≠ 5 → k ≠ b → w'.heap[k]? = w.heap[k]?
theorem check_any (B b : Nat) (cs : List Value) (w : World) (h : Lib.IsBuilder 121 5 B b cs w) :
    Calls Tryz.prog 88 #[.pointer (some ⟨b, 0, none⟩)] w fun e w' => e = .returned (.tuple #[]) ∧ (Lib.BuilderAt 121 5 B b (.pointer (some ⟨b, 0, none⟩)) cs w' ∧ Below B w w' ∧ Oth b w w') := by
  rcases h with h | h
  · refine (check_fresh b w h.cell0 h.shape h.frozen0).mono ?_
    rintro e w' ⟨rfl, rfl⟩
    exact ⟨rfl, h.used _, (Below.refl B w).setCell (p := ⟨b, 0, none⟩) h.1 _, fun k _ _ _ _ _ hk => Below.heap_setCell _ _ _ _ hk⟩
  · refine (check_used b w h.cell0).mono ?_
    rintro e w' ⟨rfl, rfl⟩
    exact ⟨rfl, h, Below.refl B _, fun _ _ _ _ _ _ _ => rfl⟩
/-- What a builder is, stays, whatever is made behind. -/
theorem own_below {w w' : World} {B : Nat} {T : TypeId} {n : Nat} {v : Value} {m : Nat} {xs : List Value} (h : w.ownsRow B T n v m xs) (k : Below w.heap.size w w') : w'.ownsRow B T n v m xs := by
  refine ⟨h.1, ?_⟩
  rcases h.2 with hn | ⟨g, cap, cur, h1, h2, h3, h4⟩
  · exact .inl hn
  · exact .inr ⟨g, cap, cur, h1, h2, (k.block g (lt_of_block h3)).trans h3, h4⟩
theorem bld_below {w w' : World} {B b : Nat} {l : List UInt8} (h : Bld B b l w) (k : Below w.heap.size w w') : Bld B b l w' := by
  unfold Bld at *
  rcases h with ⟨hB, v, hbk, hown, hne⟩ | ⟨hB, v, hbk, hown, hne⟩
  · exact .inl ⟨hB, v, (k.block b (lt_of_block hbk)).trans hbk, own_below hown k, hne⟩
  · exact .inr ⟨hB, v, (k.block b (lt_of_block hbk)).trans hbk, own_below hown k, hne⟩
theorem own_set {w : World} {B : Nat} {e : TypeId} {n : Nat} {v : Value} {m : Nat} {xs : List Value} (h : w.ownsRow B e n v m xs) {k : Nat} {cs : Array Value} {T : TypeId} {fr : Nat × Nat} (hk : w.heap[k]? = some (.cells cs T fr)) (hT : T ≠ e) (i : Nat) (u : Value) : (w.setCell ⟨k, i, none⟩ u).ownsRow B e n v m xs := by
  refine ⟨h.1, ?_⟩
  rcases h.2 with hn | ⟨g, cap, cur, h1, h2, h3, h4⟩
  · exact .inl hn
  · refine .inr ⟨g, cap, cur, h1, h2, (Below.heap_setCell _ _ _ _ ?_).trans h3, h4⟩
    intro hgk
    have hgk' : g = k := hgk
    rw [hgk', hk] at h3
    injection h3 with h3
    injection h3 with _ h3
    exact hT h3
theorem bld_set {w : World} {B b : Nat} {l : List UInt8} (h : Bld B b l w) {k : Nat} {cs : Array Value} {T : TypeId} {fr : Nat × Nat} (hk : w.heap[k]? = some (.cells cs T fr)) (hT : T ≠ 5) (hb : b ≠ k) (i : Nat) (u : Value) : Bld B b l (w.setCell ⟨k, i, none⟩ u) := by
  unfold Bld at *
  rcases h with ⟨hB, v, hbk, hown, hne⟩ | ⟨hB, v, hbk, hown, hne⟩
  · exact .inl ⟨hB, v, (Below.heap_setCell _ _ _ _ hb).trans hbk, own_set hown hk hT i u, hne⟩
  · exact .inr ⟨hB, v, (Below.heap_setCell _ _ _ _ hb).trans hbk, own_set hown hk hT i u, hne⟩
theorem bstr (B b : Nat) (l : List UInt8) (w : World) (h : Bld B b l w) (hBw : B ≤ w.heap.size) :
    Calls Tryz.prog 70 #[.pointer (some ⟨b, 0, none⟩)] w fun e w' => e = .returned (.string (bs l)) ∧ Below B w w' :=
  Tryz.Builder_String_any B b l w h hBw
end Go.Proofs.YtaeglmgpoboihaaGreatDoor
