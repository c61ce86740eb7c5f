/- Texts on the program and on the document, joined: TrpB, TrpC, TrpD. -/
import Derived.Test.YtmdibafofdghgaaGreatDoorMa27
import Derived.Test.YtmdibafofdghgaaGreatDoorMa20
import Derived.Test.YtmdibafofdghgaaGreatDoorMa24
import Derived.StillTailTactics
/- The document's Check, message, Encode, Answer of traps, walked. -/
namespace Go.Proofs.YtmdibafofdghgaaGreatDoor
open Go.ChangeShapes Go.WideShapes Go.ChangeAt Go.RowKit K P1 B5
open D8 (Bd Un lst)
open T9 (Tr bU bI msg msgB)
set_option linter.unusedVariables false

def tcE (t : Tr) : Nat := if t.ok then 0 else 90
def mgE (c : List UInt8) (u : Un) : Nat := if (msg c u).length ≤ 65535 then 0 else 2
def mgS (c : List UInt8) (u : Un) : List UInt8 := if (msg c u).length ≤ 65535 then msg c u else []
def teE (t : Tr) : Nat := if t.ok then mgE t.c t.un else 90
def teS (t : Tr) : List UInt8 := if t.ok then mgS t.c t.un else []
def taE (t : Tr) : Nat := if t.ok then (if t.f then mgE t.c (t.as 162) else 5) else 90
def taS (t : Tr) : List UInt8 := if t.ok then (if t.f then mgS t.c (t.as 162) else []) else []
/-- Traps that are not too long for a walk. -/
def LimT (t : Tr) : Prop := t.c.length ≤ 140737488351232 ∧ t.o.length ≤ 140737488351232 ∧ t.l.length ≤ 1000000 ∧ t.fits ∧ Lim t.l
theorem LimT.as {t : Tr} (h : LimT t) (g : Int) : Lim (t.as g).l := by
  obtain ⟨_, h2, _, h4, h5⟩ := h
  intro x hx
  rcases List.mem_cons.1 hx with rfl | hx
  · exact ⟨(show T9.UPT.length ≤ 140737488351232 by decide), (show ([] : List UInt8).length ≤ _ by simp), h4.1⟩
  · rcases List.mem_cons.1 hx with rfl | hx
    · exact ⟨(show T9.IDO.length ≤ 140737488351232 by decide), h2, T9.Tr.fit h4 g _ (List.mem_cons_of_mem _ (List.mem_cons_self))⟩
    · exact h5 x hx
theorem un_of {t : Tr} (h : t.ok = true) : t.un.ok = true ∧ 1 ≤ t.c.length ∧ t.c.length ≤ 64 := ⟨((T9.Tr.ok_iff t).1 h).2, ((T9.Tr.ok_iff t).1 h).1.1, ((T9.Tr.ok_iff t).1 h).1.2⟩
set_option maxRecDepth 100000 in
set_option maxHeartbeats 1000000 in
theorem qcheck9_walk (t : Tr) (ao : Option Addr) (cap : Nat) (hx : LimT t) (hsh : ((ao = none ∧ t.l.length = 0 ∧ cap = 0) ∨ ∃ a, ao = some a)) (w : World) (hr : RdB w ao t.l) :
    Calls Tryz.prog 20 #[.agg #[.string (bs t.c), .bool t.f, .int .i64 t.r, .int .i64 t.n, .string (bs t.o), .slice ao t.l.length cap]] w fun e w' => e = .returned (.int .i64 (tcE t : Nat)) ∧ Below w.heap.size w w' := by
  obtain ⟨hc, ho, hl, hft, hlm⟩ := hx
  have hba := alloc_in w (.cells #[.string (bs t.c), .bool t.f, .int .i64 t.r, .int .i64 t.n, .string (bs t.o), .slice ao t.l.length cap] 27)
  have hr1 := hr.below hba
  have HU := Lib.hid (fun w1 (h : RdB w1 ao t.l) => qunit9_walk t ao cap hl hsh w1 h)
  have hC : ∀ bo cb w1, RdB w1 bo (t.as 0).l → Calls Tryz.prog 39 #[.agg #[.int .i64 t.tag, .int .i64 t.r, .int .i64 0, .int .i64 0, .slice bo (t.l.length + 2) cb]] w1 fun e w' => e = .returned (.int .i64 (ckU t.un : Nat)) ∧ Below w1.heap.size w1 w' :=
    fun bo cb w1 h => qcheck8_walk t.un bo cb (show t.l.length + 2 ≤ _ by omega) (LimT.as ⟨hc, ho, hl, hft, hlm⟩ t.tag) w1 h
  have HR := Lib.hid hr1
  clear hr hr1
  by_cases h1 : t.c.length < 1
  · rw [show tcE t = 90 by unfold tcE T9.Tr.ok; rw [decide_eq_false (by omega : ¬ 1 ≤ t.c.length)]; rfl]
    have h1' : ((t.c.length : Nat) : Int) < 1 := by omega
    clear h1 hC HU
    go_enter Tryz.func20, Tryz.ntmps20
    go_wp2
    go_ret
    exact ⟨rfl, hba⟩
  by_cases h2 : 64 < t.c.length
  · rw [show tcE t = 90 by unfold tcE T9.Tr.ok; rw [decide_eq_false (by omega : ¬ t.c.length ≤ 64), Bool.and_false]; rfl]
    have h1' : (1 : Int) ≤ ((t.c.length : Nat) : Int) := by omega
    have h2' : (64 : Int) < ((t.c.length : Nat) : Int) := by omega
    clear h1 h2 hC HU
    go_enter Tryz.func20, Tryz.ntmps20
    go_wp2
    go_ret
    exact ⟨rfl, hba⟩
  have h1' : (1 : Int) ≤ ((t.c.length : Nat) : Int) := by omega
  have h2' : ((t.c.length : Nat) : Int) ≤ 64 := by omega
  have hE : tcE t = if t.un.ok then 0 else 90 := by
    unfold tcE T9.Tr.ok; rw [decide_eq_true (by omega : 1 ≤ t.c.length), decide_eq_true (by omega : t.c.length ≤ 64)]; rfl
  rw [hE]
  unfold ckU at hC
  cases hk : t.un.ok
  all_goals
    rw [hk] at hC
    have HC := Lib.hid hC
    clear hC h1 h2 hE hk
    go_enter Tryz.func20, Tryz.ntmps20
    go_wp2_with fail
    refine (HU.out _ HR.out).mono ?_
    rintro e w1 ⟨bo, cb, rfl, hr2, b1⟩
    go_wp2_with fail
    refine (HC.out _ _ _ hr2).mono ?_
    rintro e w2 ⟨rfl, b2⟩
    go_wp2
    go_ret
    exact ⟨rfl, (Below_in b1).trans (b2.mono (Below_in b1).size)⟩
set_option maxRecDepth 100000 in
set_option maxHeartbeats 1000000 in
theorem qmessage9_walk (c : List UInt8) (hc : c.length ≤ 64) (u : Un) (hk : u.ok = true) (ao : Option Addr) (cap : Nat) (hx : Lim u.l) (w : World) (hr : RdB w ao u.l) :
    Calls Tryz.prog 35 #[.string (bs c), .agg #[.int .i64 u.t, .int .i64 u.r, .int .i64 u.a, .int .i64 u.i, .slice ao u.l.length cap]] w fun e w' => e = .returned (.tuple #[.string (bs (mgS c u)), .int .i64 (mgE c u : Nat)]) ∧ Below w.heap.size w w' := by
  obtain ⟨l1, l2, l3⟩ := T9.msg_len hc hk
  have l4 := T9.el_bound hk
  have hba := alloc_in w (.cells #[.int .i64 u.t, .int .i64 u.r, .int .i64 u.a, .int .i64 u.i, .slice ao u.l.length cap] 60)
  have huq := Uq.new 60 w u ao cap
  have HR := Lib.hid (hr.below hba)
  have hP4 : ∀ w1, Calls Tryz.prog 55 #[.int .i64 4, .string (bs c)] w1 fun e w' => e = .returned (.string (bs (put 4 c))) ∧ Below w1.heap.size w1 w' := fun w1 => qput_walk 4 (by omega) c (by omega) w1
  have hPm : ∀ w1, Calls Tryz.prog 55 #[.int .i64 48, .string (({ data := #[2, 1, 1] } : ByteArray) ++ bs (put 4 c) ++ bs u.el)] w1 fun e w' => e = .returned (.string (bs (msg c u))) ∧ Below w1.heap.size w1 w' := by
    intro w1
    have := qput_walk 48 (by omega) (msgB c u) (by omega) w1
    rw [show bs (msgB c u) = ({ data := #[2, 1, 1] } : ByteArray) ++ bs (put 4 c) ++ bs u.el by unfold msgB; rw [← List.append_assoc, ← bs_append, ← bs_append]; rfl] at this
    exact this
  have HPu := Lib.hid (fun w1 (h : RdB w1 ao u.l) => qput8_walk u ao cap hk hx w1 h)
  have HP4 := Lib.hid hP4
  have HPm := Lib.hid hPm
  have hE : mgE c u = if (msg c u).length ≤ 65535 then 0 else 2 := rfl
  have hS : mgS c u = if (msg c u).length ≤ 65535 then msg c u else [] := rfl
  rw [hE, hS]
  clear hr hP4 hPm l2 hE hS hx hk
  generalize put 4 c = P4 at *
  generalize u.el = EL at *
  generalize msg c u = M at *
  have hc1 : (9223372036854775807 < 3 + P4.length) = False := eq_false (by omega)
  have hc2 : (9223372036854775807 < 3 + P4.length + EL.length) = False := eq_false (by omega)
  by_cases hM : M.length ≤ 65535
  · rw [if_pos hM, if_pos hM]
    have hM' : ((M.length : Nat) : Int) ≤ 65535 := by omega
    clear hM
    go_enter Tryz.func35, Tryz.ntmps35
    go_wp2_with fail
    generalize w.alloc (.cells #[.int .i64 u.t, .int .i64 u.r, .int .i64 u.a, .int .i64 u.i, .slice ao u.l.length cap] 60) = w0 at *
    have zS := huq.cells
    go_region_held3 (fun x => x.cell? ⟨w.heap.size, 0, none⟩ = some (.int .i64 u.t) ∧ x.cell? ⟨w.heap.size, 1, none⟩ = some (.int .i64 u.r) ∧ x.cell? ⟨w.heap.size, 2, none⟩ = some (.int .i64 u.a) ∧ x.cell? ⟨w.heap.size, 3, none⟩ = some (.int .i64 u.i) ∧ x.cell? ⟨w.heap.size, 4, none⟩ = some (.slice ao u.l.length cap)) (first | exact zS | exact zS1 | exact zS2 | exact zS3)
      (first
        | (go_at_call 55; (with_reducible refine (HP4.out _).mono ?_); rintro e x1 ⟨rfl, j1⟩; have k1 : Below w0.heap.size w0 x1 := ⟨j1.os, j1.tape, j1.output, j1.size, j1.block⟩; have hb1 := hba.trans (k1.mono hba.size); have hq1 := huq.below k1; have HR1 := Lib.hid (HR.out.below k1); have zS1 := hq1.cells)
        | (go_at_call 56; refine (HPu.out _ (by exact HR1.out)).mono ?_; rintro e x2 ⟨rfl, j2⟩; have k2 : Below x1.heap.size x1 x2 := ⟨j2.os, j2.tape, j2.output, j2.size, j2.block⟩; have hb2 := hb1.trans (k2.mono hb1.size); have hq2 := hq1.below k2; have zS2 := hq2.cells)
        | (go_at_call 55; (with_reducible refine (HPm.out _).mono ?_); rintro e x3 ⟨rfl, j3⟩; have k3 : Below x2.heap.size x2 x3 := ⟨j3.os, j3.tape, j3.output, j3.size, j3.block⟩; have hb3 := hb2.trans (k3.mono hb2.size); have hq3 := hq2.below k3; have zS3 := hq3.cells))
    go_wp2
    go_ret2
    exact ⟨rfl, hb3⟩
  · rw [if_neg hM, if_neg hM]
    have hM' : (65535 : Int) < ((M.length : Nat) : Int) := by omega
    clear hM
    go_enter Tryz.func35, Tryz.ntmps35
    go_wp2_with fail
    generalize w.alloc (.cells #[.int .i64 u.t, .int .i64 u.r, .int .i64 u.a, .int .i64 u.i, .slice ao u.l.length cap] 60) = w0 at *
    have zS := huq.cells
    go_region_held3 (fun x => x.cell? ⟨w.heap.size, 0, none⟩ = some (.int .i64 u.t) ∧ x.cell? ⟨w.heap.size, 1, none⟩ = some (.int .i64 u.r) ∧ x.cell? ⟨w.heap.size, 2, none⟩ = some (.int .i64 u.a) ∧ x.cell? ⟨w.heap.size, 3, none⟩ = some (.int .i64 u.i) ∧ x.cell? ⟨w.heap.size, 4, none⟩ = some (.slice ao u.l.length cap)) (first | exact zS | exact zS1 | exact zS2 | exact zS3)
      (first
        | (go_at_call 55; (with_reducible refine (HP4.out _).mono ?_); rintro e x1 ⟨rfl, j1⟩; have k1 : Below w0.heap.size w0 x1 := ⟨j1.os, j1.tape, j1.output, j1.size, j1.block⟩; have hb1 := hba.trans (k1.mono hba.size); have hq1 := huq.below k1; have HR1 := Lib.hid (HR.out.below k1); have zS1 := hq1.cells)
        | (go_at_call 56; refine (HPu.out _ (by exact HR1.out)).mono ?_; rintro e x2 ⟨rfl, j2⟩; have k2 : Below x1.heap.size x1 x2 := ⟨j2.os, j2.tape, j2.output, j2.size, j2.block⟩; have hb2 := hb1.trans (k2.mono hb1.size); have hq2 := hq1.below k2; have zS2 := hq2.cells)
        | (go_at_call 55; (with_reducible refine (HPm.out _).mono ?_); rintro e x3 ⟨rfl, j3⟩; have k3 : Below x2.heap.size x2 x3 := ⟨j3.os, j3.tape, j3.output, j3.size, j3.block⟩; have hb3 := hb2.trans (k3.mono hb2.size); have hq3 := hq2.below k3; have zS3 := hq3.cells))
    go_wp2
    go_ret2
    exact ⟨rfl, hb3⟩
end Go.Proofs.YtmdibafofdghgaaGreatDoor
/- The document's parts of a message, walked. -/
namespace Go.Proofs.YtmdibafofdghgaaGreatDoor
open Go.ChangeShapes Go.WideShapes Go.ChangeAt Go.RowKit K P1 B5
open D8 (Bd Un lst)
open T9 (Tr bU bI msg msgB)
set_option linter.unusedVariables false

/-- What parts hands back: the list, and whether they are three of one element, whole. -/
def PsPost (s : List UInt8) (w : World) (e : Ending) (w' : World) : Prop :=
  ∃ v ps ok, e = .returned (.tuple #[v, .bool ok]) ∧ OwnP w' w.heap.size 57 v ps ∧ Below w.heap.size w w' ∧
    ((ok = true ∧ nxOk s = true ∧ nxR s = [] ∧ nxT s = 48 ∧ prt 0 (nxB s) = .ok ps ∧ ps.length = 3) ∨
     (ok = false ∧ ¬ (nxOk s = true ∧ nxR s = [] ∧ nxT s = 48 ∧ ∃ ps', prt 0 (nxB s) = .ok ps' ∧ ps'.length = 3)))
theorem PsPost.no {s : List UInt8} {w w' : World} (h : ¬ (nxOk s = true ∧ nxR s = [] ∧ nxT s = 48 ∧ ∃ ps', prt 0 (nxB s) = .ok ps' ∧ ps'.length = 3)) (k : Below w.heap.size w w') : PsPost s w (.returned (.tuple #[.slice none 0 0, .bool false])) w' :=
  ⟨_, [], false, rfl, OwnP.nil _ _ _, k, .inr ⟨rfl, h⟩⟩
set_option maxRecDepth 100000 in
set_option maxHeartbeats 1000000 in
theorem qpartsof_walk (s : List UInt8) (hs : s.length ≤ 140737488351232) (w : World) :
    Calls Tryz.prog 27 #[.string (bs s), .int .i64 48, .int .i64 3] w (PsPost s w) := by
  have HNO := Lib.hid (fun (w' : World) (h : ¬ (nxOk s = true ∧ nxR s = [] ∧ nxT s = 48 ∧ ∃ ps', prt 0 (nxB s) = .ok ps' ∧ ps'.length = 3)) (k : Below w.heap.size w w') => PsPost.no h k)
  cases hx : nxOk s
  · have HN := Lib.hid (qnext_no s hs hx w)
    have HE := Lib.hid (show ¬ (nxOk s = true ∧ nxR s = [] ∧ nxT s = 48 ∧ ∃ ps', prt 0 (nxB s) = .ok ps' ∧ ps'.length = 3) from fun h => by rw [hx] at h; exact absurd h.1 (by simp))
    clear hx
    go_enter Tryz.func27, Tryz.ntmps27
    go_wp2_with fail
    refine HN.out.mono ?_
    rintro e w1 ⟨rfl, b1⟩
    have b2 := b1.trans ((alloc_in w1 (.cells #[.int .i64 0, .string (bs [])] 57)).mono b1.size)
    go_wp2
    go_ret2
    exact HNO.out _ HE.out b2
  · have HN := Lib.hid (qnext_ok s hs hx w)
    have hbl := (nx_of hx).2.2.2.2
    by_cases hR : nxR s = []
    rotate_left
    · have hne : (nxR s).isEmpty = false := List.isEmpty_eq_false_iff.2 hR
      have HE := Lib.hid (show ¬ (nxOk s = true ∧ nxR s = [] ∧ nxT s = 48 ∧ ∃ ps', prt 0 (nxB s) = .ok ps' ∧ ps'.length = 3) from fun h => hR h.2.1)
      clear hR hx hbl
      obtain ⟨T, hT⟩ : ∃ x, nxT s = x := ⟨_, rfl⟩
      obtain ⟨B, hB⟩ : ∃ x, nxB s = x := ⟨_, rfl⟩
      rw [hT, hB] at HN
      generalize nxR s = R at *
      clear hT hB
      go_enter Tryz.func27, Tryz.ntmps27
      go_wp2_with fail
      refine HN.out.mono ?_
      rintro e w1 ⟨rfl, b1⟩
      have b2 := b1.trans ((alloc_in w1 (.cells #[.int .i64 (T : Nat), .string (bs B)] 57)).mono b1.size)
      go_wp2
      go_ret2
      exact HNO.out _ HE.out b2
    by_cases hT : nxT s = 48
    rotate_left
    · have hne : (((nxT s : Nat) : Int) != 48) = true := by rw [bne_iff_ne]; omega
      have HE := Lib.hid (show ¬ (nxOk s = true ∧ nxR s = [] ∧ nxT s = 48 ∧ ∃ ps', prt 0 (nxB s) = .ok ps' ∧ ps'.length = 3) from fun h => hT h.2.2.1)
      rw [hR] at HN
      clear hR hx hT hbl
      obtain ⟨B, hB⟩ : ∃ x, nxB s = x := ⟨_, rfl⟩
      rw [hB] at HN
      generalize nxT s = T at *
      clear hB
      go_enter Tryz.func27, Tryz.ntmps27
      go_wp2_with fail
      refine HN.out.mono ?_
      rintro e w1 ⟨rfl, b1⟩
      have b2 := b1.trans ((alloc_in w1 (.cells #[.int .i64 (T : Nat), .string (bs B)] 57)).mono b1.size)
      go_wp2
      go_ret2
      exact HNO.out _ HE.out b2
    have HP := Lib.hid (fun w1 => qparts_walk (nxB s) (by omega) w1)
    unfold QaPost at HP
    have HY := Lib.hid (show ∀ ps, prt 0 (nxB s) = .ok ps → ps.length = 3 → (nxOk s = true ∧ nxR s = [] ∧ nxT s = 48 ∧ prt 0 (nxB s) = .ok ps ∧ ps.length = 3) from fun ps h1 h2 => ⟨hx, hR, hT, h1, h2⟩)
    have HE := Lib.hid (show ∀ x, prt 0 (nxB s) = x → (∀ ps, x = .ok ps → ps.length ≠ 3) → ¬ (nxOk s = true ∧ nxR s = [] ∧ nxT s = 48 ∧ ∃ ps', prt 0 (nxB s) = .ok ps' ∧ ps'.length = 3) from fun x h1 h2 h => by
      obtain ⟨_, _, _, ps', h3, h4⟩ := h
      rw [h1] at h3
      exact h2 ps' h3 h4)
    rw [hR, hT] at HN
    clear hR hT hx hbl
    obtain ⟨B, hB⟩ : ∃ x, nxB s = x := ⟨_, rfl⟩
    rw [hB] at HN HP HY HE
    have HBB := Lib.hid hB
    clear hB
    go_enter Tryz.func27, Tryz.ntmps27
    go_wp2_with fail
    refine HN.out.mono ?_
    rintro e w1 ⟨rfl, b1⟩
    have b2 := b1.trans ((alloc_in w1 (.cells #[.int .i64 48, .string (bs B)] 57)).mono b1.size)
    clear b1
    go_wp2_with fail
    refine (HP.out _).mono ?_
    rintro e w3 (⟨c, h', rfl, d3⟩ | ⟨ps, v, h', rfl, ho, d3⟩)
    · have hc : (((c : Nat) : Int) == 0) = false := by rw [beq_eq_false_iff_ne]; rcases prt_err h' with rfl | rfl <;> decide
      have hE := HE.out _ h' (fun ps h => by cases h)
      have HE2 := Lib.hid hE
      have b3 := b2.trans (d3.mono b2.size)
      clear h' hE
      go_wp2
      go_ret2
      exact HNO.out _ (by rw [HBB.out]; exact HE2.out) b3
    · have b3 := b2.trans (d3.mono b2.size)
      have ho3 := ho.mono b2.size
      obtain ⟨ao, cap, rfl, hf⟩ := ho.form
      clear hf ho
      by_cases h3 : ps.length = 3
      · have HF := Lib.hid (HY.out ps h' h3)
        have HO := Lib.hid ho3
        have h3' : (((ps.length : Nat) : Int) == 3) = true := by rw [h3]; rfl
        clear h' ho3 h3
        go_wp2
        go_ret2
        exact ⟨_, ps, true, rfl, HO.out, b3, .inl ⟨rfl, by rw [HBB.out]; exact HF.out⟩⟩
      · have hE := HE.out _ h' (fun ps' h => by injection h with h; rw [← h]; exact h3)
        have HE2 := Lib.hid hE
        have HO := Lib.hid ho3
        have h3' : (((ps.length : Nat) : Int) == 3) = false := by rw [beq_eq_false_iff_ne]; omega
        clear h' ho3 h3 hE
        go_wp2
        go_ret2
        exact ⟨_, ps, false, rfl, HO.out, b3, .inr ⟨rfl, by rw [HBB.out]; exact HE2.out⟩⟩
end Go.Proofs.YtmdibafofdghgaaGreatDoor
/- The document's of: the trap of a unit, walked. -/
namespace Go.Proofs.YtmdibafofdghgaaGreatDoor
open Go.ChangeShapes Go.WideShapes Go.ChangeAt Go.RowKit K P1 B5
open D8 (Bd Un lst)
open T9 (Tr bU bI msg msgB ofU)
set_option linter.unusedVariables false

/-- What of hands back. -/
def OfPost (c : List UInt8) (u : Un) (w : World) (e : Ending) (w' : World) : Prop :=
  ∃ (t : Tr) (ao : Option Addr) (cap : Nat) (ok : Bool), e = .returned (.tuple #[.agg #[.string (bs t.c), .bool t.f, .int .i64 t.r, .int .i64 t.n, .string (bs t.o), .slice ao t.l.length cap], .bool ok]) ∧ RdB w' ao t.l ∧ Below w.heap.size w w' ∧ (∀ a, ao = some a → w.heap.size ≤ a.block) ∧ (ok = true → ofU c u = some t) ∧ (ok = false → ofU c u = none)
theorem OfPost.no {c : List UInt8} {u : Un} (h : ofU c u = none) {w w' : World} (k : Below w.heap.size w w') : OfPost c u w (.returned (.tuple #[.agg #[.string { data := #[] }, .bool false, .int .i64 0, .int .i64 0, .string { data := #[] }, .slice none 0 0], .bool false])) w' :=
  ⟨not9, none, 0, false, rfl, .inl rfl, k, (fun a ha => by cases ha), ⟨fun h2 => Bool.noConfusion h2, fun _ => h⟩⟩
theorem OwnB.newOf {w : World} {B : Nat} {T : TypeId} {ao : Option Addr} {n cap : Nat} {xs : List Bd} (h : OwnB w B T (.slice ao n cap) xs) : ∀ a, ao = some a → B ≤ a.block := by
  rcases h.2 with ⟨hv, h0⟩ | ⟨g, cap', cur, hv, hB, _⟩
  · injection hv with h1 h2 h3
    intro a ha; rw [h1] at ha; cases ha
  · injection hv with h1 h2 h3
    intro a ha; rw [h1] at ha; cases ha; exact hB
theorem Tq.set {w : World} {b : Nat} {t : Tr} {ao : Option Addr} {cap : Nat} (h : Tq w b t ao cap) (v : Tr) (bo : Option Addr) (cb : Nat) :
    Tq ((((((w.setCell ⟨b, 0, none⟩ (.string (bs v.c))).setCell ⟨b, 1, none⟩ (.bool v.f)).setCell ⟨b, 2, none⟩ (.int .i64 v.r)).setCell ⟨b, 3, none⟩ (.int .i64 v.n)).setCell ⟨b, 4, none⟩ (.string (bs v.o))).setCell ⟨b, 5, none⟩ (.slice bo v.l.length cb)) b v bo cb := by
  have := rowSet (rowSet (rowSet (rowSet (rowSet (rowSet h 0 (.string (bs v.c))) 1 (.bool v.f)) 2 (.int .i64 v.r)) 3 (.int .i64 v.n)) 4 (.string (bs v.o))) 5 (.slice bo v.l.length cb)
  simpa [Tq] using this
theorem below_set6 {B b : Nat} {w w' : World} (h : Below B w w') (hb : B ≤ b) (v0 v1 v2 v3 v4 v5 : Value) : Below B w ((((((w'.setCell ⟨b, 0, none⟩ v0).setCell ⟨b, 1, none⟩ v1).setCell ⟨b, 2, none⟩ v2).setCell ⟨b, 3, none⟩ v3).setCell ⟨b, 4, none⟩ v4).setCell ⟨b, 5, none⟩ v5) :=
  (below_set5 h hb v0 v1 v2 v3 v4).setCell (p := ⟨b, 5, none⟩) hb v5
/-- The two blocks of of: the unit, and what is handed back. -/
theorem two_blocksO (w : World) (u : Un) (bo : Option Addr) (cb : Nat) : ∃ w2, (w.alloc (.cells #[.int .i64 u.t, .int .i64 u.r, .int .i64 u.a, .int .i64 u.i, .slice bo u.l.length cb] 60)).alloc (.cells #[.string { data := #[] }, .bool false, .int .i64 0, .int .i64 0, .string { data := #[] }, .slice none 0 0] 27) = w2 ∧
    Uq 60 w2 w.heap.size u bo cb ∧ Tq w2 (w.heap.size + 1) not9 none 0 ∧ Below w.heap.size w w2 ∧ w2.heap.size = w.heap.size + 2 := by
  have hr := (Uq.new 60 w u bo cb).below (alloc_in _ (.cells #[.string { data := #[] }, .bool false, .int .i64 0, .int .i64 0, .string { data := #[] }, .slice none 0 0] 27))
  refine ⟨_, rfl, hr, ?_, ((Below.refl _ _).alloc (Nat.le_refl _) _).alloc (by simp) _, by simp⟩
  have := Tq.new (w.alloc (.cells #[.int .i64 u.t, .int .i64 u.r, .int .i64 u.a, .int .i64 u.i, .slice bo u.l.length cb] 60)) not9 none 0
  rw [show (w.alloc (.cells #[.int .i64 u.t, .int .i64 u.r, .int .i64 u.a, .int .i64 u.i, .slice bo u.l.length cb] 60)).heap.size = w.heap.size + 1 by simp] at this
  exact this
theorem ofU_short {c : List UInt8} {u : Un} (h : u.l.length < 2) : ofU c u = none := by
  unfold ofU
  match hl : u.l, h with
  | [], _ => rfl
  | [x], _ => rfl
theorem ofU_two {c : List UInt8} {u : Un} {x y : Bd} {l : List Bd} (h : u.l = x :: y :: l) : ofU c u = if (u.t ≠ 162 ∧ x.o = T9.UPT ∧ x.k = 67 ∧ y.o = T9.IDO ∧ y.k = 6) ∧ Tr.ok ⟨c, u.t == 166, u.r, x.n, y.s, l⟩ = true then some ⟨c, u.t == 166, u.r, x.n, y.s, l⟩ else none := by
  unfold ofU; rw [h]
set_option maxRecDepth 100000 in
set_option maxHeartbeats 2000000 in
theorem qof9_few (c : List UInt8) (u : Un) (bo : Option Addr) (cb : Nat) (w : World) (h : u.t = 162 ∨ u.l.length < 2) :
    Calls Tryz.prog 30 #[.string (bs c), .agg #[.int .i64 u.t, .int .i64 u.r, .int .i64 u.a, .int .i64 u.i, .slice bo u.l.length cb]] w (OfPost c u w) := by
  have HNo := Lib.hid (fun (e : ofU c u = none) (w' : World) (k : Below w.heap.size w w') => OfPost.no e k)
  have HE := Lib.hid (show ofU c u = none by rcases h with h | h; exact T9.ofU_no h; exact ofU_short h)
  obtain ⟨w2, hw2, hq, ht, bw, hsz⟩ := two_blocksO w u bo cb
  have HW := Lib.hid hw2
  clear hw2
  have hways : (u.t == 162) = true ∨ ((u.t == 162) = false ∧ ((u.l.length : Nat) : Int) < 2) := by
    by_cases ht : u.t = 162
    · exact .inl (by rw [ht]; rfl)
    · refine .inr ⟨beq_eq_false_iff_ne.2 ht, ?_⟩
      rcases h with h | h
      · exact absurd h ht
      · omega
  clear h
  rcases hways with h1 | ⟨h1, h2⟩
  all_goals
    go_enter Tryz.func30, Tryz.ntmps30
    go_wp2
    rw [HW.out]
    refine bodyPost_ret (results_cell_row2 rfl _ _ (w.heap.size + 1) _ _ _ _ rfl ht Tryz.underlying27 rfl (by kernel_rfl)) rfl ?_
    exact HNo.out HE.out _ bw
theorem own_set6 {w : World} {B : Nat} {e : TypeId} {n : Nat} {v : Value} {m : Nat} {xs : List Value} (h : w.ownsRow B e n v m xs) {k : Nat} {cs : Array Value} {T : TypeId} (hk : w.heap[k]? = some (.cells cs T (0, 0))) (hT : T ≠ e) (v0 v1 v2 v3 v4 v5 : Value) :
    ((((((w.setCell ⟨k, 0, none⟩ v0).setCell ⟨k, 1, none⟩ v1).setCell ⟨k, 2, none⟩ v2).setCell ⟨k, 3, none⟩ v3).setCell ⟨k, 4, none⟩ v4).setCell ⟨k, 5, none⟩ v5).ownsRow B e n v m xs :=
  own_set (own_set5 h hk hT v0 v1 v2 v3 v4) (rowSet (rowSet (rowSet (rowSet (rowSet hk 0 v0) 1 v1) 2 v2) 3 v3) 4 v4) hT 5 v5
theorem RdB.drop2 {w : World} {b off : Nat} {x y : Bd} {l : List Bd} (h : RdB w (some ⟨b, off, none⟩) (x :: y :: l)) : RdB w (some ⟨b, off + 8, none⟩) l := by
  rcases h with h | ⟨b', off', ha, hb, hc⟩
  · simp at h
  · injection ha with ha
    injection ha with h1 h2 _
    subst h1 h2
    refine .inr ⟨b, off + 8, rfl, hb, fun i hi => ?_⟩
    have := hc (i + 2) (by simpa using hi)
    rw [show (x :: y :: l).getD (i + 2) nob = l.getD i nob by simp [List.getD], show off + (i + 2) * 4 = off + 8 + i * 4 by omega, show off + ((i + 2) * 4 + 1) = off + 8 + (i * 4 + 1) by omega, show off + ((i + 2) * 4 + 2) = off + 8 + (i * 4 + 2) by omega, show off + ((i + 2) * 4 + 3) = off + 8 + (i * 4 + 3) by omega] at this
    exact this
set_option maxRecDepth 100000 in
set_option maxHeartbeats 4000000 in
theorem qof9_go (c : List UInt8) (hc : c.length ≤ 140737488351232) (u : Un) (bo : Option Addr) (cb : Nat) (hl : u.l.length ≤ 1000000) (hcap : u.l.length ≤ cb) (hx : Lim u.l) (w : World) (hr : RdB w bo u.l) (h1 : u.t ≠ 162) (x y : Bd) (l : List Bd) (hul : u.l = x :: y :: l) :
    Calls Tryz.prog 30 #[.string (bs c), .agg #[.int .i64 u.t, .int .i64 u.r, .int .i64 u.a, .int .i64 u.i, .slice bo u.l.length cb]] w (OfPost c u w) := by
  have HNo := Lib.hid (fun (e : ofU c u = none) (w' : World) (k : Below w.heap.size w w') => OfPost.no e k)
  have hE := ofU_two (c := c) hul
  obtain ⟨w2, hw2, hq, ht, bw, hsz⟩ := two_blocksO w u bo cb
  have HW := Lib.hid hw2
  have hr2 := hr.below bw
  have hlen : u.l.length = l.length + 2 := by rw [hul]; rfl
  have h1' : (u.t == 162) = false := beq_eq_false_iff_ne.2 h1
  obtain ⟨b, off, rfl, hbl, x0, x1, x2, x3⟩ := hr2.at (i := 0) (by omega) (x := x) (by rw [hul]; rfl)
  obtain ⟨b', off', hbo, _, y0, y1, y2, y3⟩ := hr2.at (i := 1) (by omega) (x := y) (by rw [hul]; rfl)
  simp only [Option.some.injEq, Addr.mk.injEq, and_true] at hbo
  obtain ⟨rfl, rfl⟩ := hbo
  simp only [Nat.zero_mul, Nat.add_zero, Nat.one_mul] at x0 x1 x2 x3 y0 y1 y2 y3
  obtain ⟨z0, z1, z2, z3, z4⟩ := hq.cells
  have hn0 : (0 : Int) < ((u.l.length : Nat) : Int) := by omega
  have hn1 : (1 : Int) < ((u.l.length : Nat) : Int) := by omega
  have hn2 : (2 : Int) ≤ ((u.l.length : Nat) : Int) := by omega
  have hn3 : 0 < u.l.length := by omega
  have hn4 : 1 < u.l.length := by omega
  clear hw2 h1
  have HLN := Lib.hid hlen
  have HX := Lib.hid hx
  have HUL := Lib.hid hul
  have HE := Lib.hid hE
  have HR := Lib.hid hr2
  have HC := Lib.hid hcap
  clear hlen hr hr2 hx hul hE z0 z1 z2 z3 hcap
  go_enter Tryz.func30, Tryz.ntmps30
  go_wp2_with fail
  try rw [HW.out]
  have y5 : w2.cell? ⟨b, off + 5, none⟩ = some (.int .i64 y.k) := y1
  have y6 : w2.cell? ⟨b, off + 6, none⟩ = some (.int .i64 y.n) := y2
  have y7 : w2.cell? ⟨b, off + 7, none⟩ = some (.string (bs y.s)) := y3
  have zS := And.intro z4 (And.intro x0 (And.intro x1 (And.intro x2 (And.intro x3 (And.intro y0 (And.intro y5 (And.intro y6 y7)))))))
  have hP1 := Bq.new w2 x
  have hP2 := Bq.new (w2.alloc (.cells (cellsB x).toArray 48)) y
  have hQ1 := Bq.new w2 y
  have hQ2 := Bq.new (w2.alloc (.cells (cellsB y).toArray 48)) x
  have kP := alloc_in (w2.alloc (.cells (cellsB x).toArray 48)) (.cells (cellsB y).toArray 48)
  have kQ := alloc_in (w2.alloc (.cells (cellsB y).toArray 48)) (.cells (cellsB x).toArray 48)
  have kP0 := alloc_in w2 (.cells (cellsB x).toArray 48)
  have kQ0 := alloc_in w2 (.cells (cellsB y).toArray 48)
  have HPQ := Lib.hid (And.intro (And.intro (hP1.below kP) (And.intro hP2 (kP0.trans (kP.mono kP0.size)))) (And.intro (hQ1.below kQ) (And.intro hQ2 (kQ0.trans (kQ.mono kQ0.size)))))
  clear hP1 hP2 hQ1 hQ2 kP kQ kP0 kQ0
  go_cut [6, 7] (fun v6 v7 wx => ∃ p q, v6 = .pointer (some ⟨p, 0, none⟩) ∧ v7 = .pointer (some ⟨q, 0, none⟩) ∧ Bq wx p x ∧ Bq wx q y ∧ Below w2.heap.size w2 wx)
  case first =>
    go_region_held3 (fun x' => x'.cell? ⟨w.heap.size, 4, none⟩ = some (.slice (some ⟨b, off, none⟩) u.l.length cb) ∧ x'.cell? ⟨b, off, none⟩ = some (.string (bs x.o)) ∧ x'.cell? ⟨b, off + 1, none⟩ = some (.int .i64 x.k) ∧ x'.cell? ⟨b, off + 2, none⟩ = some (.int .i64 x.n) ∧ x'.cell? ⟨b, off + 3, none⟩ = some (.string (bs x.s)) ∧ x'.cell? ⟨b, off + 4, none⟩ = some (.string (bs y.o)) ∧ x'.cell? ⟨b, off + 5, none⟩ = some (.int .i64 y.k) ∧ x'.cell? ⟨b, off + 6, none⟩ = some (.int .i64 y.n) ∧ x'.cell? ⟨b, off + 7, none⟩ = some (.string (bs y.s))) (first | exact zS | go_keep) (fail)
    all_goals
      go_wp2_with fail
      go_meet
    · obtain ⟨p1, p2, p3⟩ := HPQ.out.1
      rw [show (w2.alloc (.cells (cellsB x).toArray 48)).heap.size = w.heap.size + 2 + 1 by simp [hsz]] at p2
      exact ⟨w.heap.size + 2, w.heap.size + 2 + 1, rfl, rfl, by rw [← hsz]; exact p1, p2, ⟨p3.os, p3.tape, p3.output, p3.size, p3.block⟩⟩
    · obtain ⟨p1, p2, p3⟩ := HPQ.out.2
      rw [show (w2.alloc (.cells (cellsB y).toArray 48)).heap.size = w.heap.size + 2 + 1 by simp [hsz]] at p2
      exact ⟨w.heap.size + 2 + 1, w.heap.size + 2, rfl, rfl, p2, by rw [← hsz]; exact p1, ⟨p3.os, p3.tape, p3.output, p3.size, p3.block⟩⟩
  case rest =>
    obtain ⟨p, q, rfl, rfl, hp, hq2, bx⟩ := hcut
    obtain ⟨w5, rfl⟩ : ∃ x : World, x = wc := ⟨_, rfl⟩
    have hb5 := bw.trans (bx.mono bw.size)
    have ht5 := ht.below bx
    have hu5 := hq.below bx
    have HR5 := Lib.hid (HR.out.below bx)
    obtain ⟨p0, p1, p2, p3⟩ := hp.cells
    obtain ⟨q0, q1, q2, q3⟩ := hq2.cells
    obtain ⟨z0, z1, z2, z3, z4⟩ := hu5.cells
    obtain ⟨c0, c1, c2, c3, c4, c5⟩ := ht5.cells
    have f0 := ht5.free 0
    have f1 := ht5.free 1
    have f2 := ht5.free 2
    have f3 := ht5.free 3
    have f4 := ht5.free 4
    have f5 := ht5.free 5
    have PX := ht5.set not9 none 0
    have bb := below_set6 hb5 (b := w.heap.size + 1) (Nat.le_succ _) (.string (bs [])) (.bool false) (.int .i64 0) (.int .i64 0) (.string (bs [])) (.slice none 0 0)
    clear x0 x1 x2 x3 y0 y1 y2 y3 y5 y6 y7 zS HPQ HW HR bx ht hq hp hq2 bw hsz
    by_cases hA : x.o = T9.UPT
    rotate_left
    · have HE2 := Lib.hid (show ofU c u = none by rw [HE.out, if_neg]; intro h; exact absurd h.1.2.1 ‹_›)
      have e1 : ¬ x.o = [49, 46, 51, 46, 54, 46, 49, 46, 50, 46, 49, 46, 49, 46, 51, 46, 48] := hA
      have e2 : (x.o == [49, 46, 51, 46, 54, 46, 49, 46, 50, 46, 49, 46, 49, 46, 51, 46, 48]) = false := beq_eq_false_iff_ne.2 hA
      clear hA
      clear HE HUL HX HLN
      go_wp2
      refine bodyPost_ret (results_cell_row2 rfl _ _ (w.heap.size + 1) _ _ _ _ rfl PX Tryz.underlying27 rfl (by kernel_rfl)) rfl ?_
      exact HNo.out HE2.out _ bb
    have p0' : w5.cell? ⟨p, 0, none⟩ = some (.string (bs [49, 46, 51, 46, 54, 46, 49, 46, 50, 46, 49, 46, 49, 46, 51, 46, 48])) := by rw [p0, hA]; rfl
    clear p0
    by_cases hB : x.k = 67
    rotate_left
    · have HE2 := Lib.hid (show ofU c u = none by rw [HE.out, if_neg]; intro h; exact absurd h.1.2.2.1 ‹_›)
      have e1 : (x.k != 67) = true := by rw [bne_iff_ne]; exact hB
      clear hB hA
      clear HE HUL HX HLN
      go_wp2
      refine bodyPost_ret (results_cell_row2 rfl _ _ (w.heap.size + 1) _ _ _ _ rfl PX Tryz.underlying27 rfl (by kernel_rfl)) rfl ?_
      exact HNo.out HE2.out _ bb
    have p1' : w5.cell? ⟨p, 1, none⟩ = some (.int .i64 67) := by rw [p1, hB]
    clear p1
    by_cases hC : y.o = T9.IDO
    rotate_left
    · have HE2 := Lib.hid (show ofU c u = none by rw [HE.out, if_neg]; intro h; exact absurd h.1.2.2.2.1 ‹_›)
      have e1 : ¬ y.o = [49, 46, 51, 46, 54, 46, 49, 46, 54, 46, 51, 46, 49, 46, 49, 46, 52, 46, 49, 46, 48] := hC
      have e2 : (y.o == [49, 46, 51, 46, 54, 46, 49, 46, 54, 46, 51, 46, 49, 46, 49, 46, 52, 46, 49, 46, 48]) = false := beq_eq_false_iff_ne.2 hC
      clear hC hB hA
      clear HE HUL HX HLN
      go_wp2
      refine bodyPost_ret (results_cell_row2 rfl _ _ (w.heap.size + 1) _ _ _ _ rfl PX Tryz.underlying27 rfl (by kernel_rfl)) rfl ?_
      exact HNo.out HE2.out _ bb
    have q0' : w5.cell? ⟨q, 0, none⟩ = some (.string (bs [49, 46, 51, 46, 54, 46, 49, 46, 54, 46, 51, 46, 49, 46, 49, 46, 52, 46, 49, 46, 48])) := by rw [q0, hC]; rfl
    clear q0
    by_cases hD : y.k = 6
    rotate_left
    · have HE2 := Lib.hid (show ofU c u = none by rw [HE.out, if_neg]; intro h; exact absurd h.1.2.2.2.2 ‹_›)
      have e1 : (y.k != 6) = true := by rw [bne_iff_ne]; exact hD
      clear hD hC hB hA
      clear HE HUL HX HLN
      go_wp2
      refine bodyPost_ret (results_cell_row2 rfl _ _ (w.heap.size + 1) _ _ _ _ rfl PX Tryz.underlying27 rfl (by kernel_rfl)) rfl ?_
      exact HNo.out HE2.out _ bb
    have q1' : w5.cell? ⟨q, 1, none⟩ = some (.int .i64 6) := by rw [q1, hD]
    clear q1
    have HE3 := Lib.hid (show ofU c u = if Tr.ok ⟨c, u.t == 166, u.r, x.n, y.s, l⟩ = true then some ⟨c, u.t == 166, u.r, x.n, y.s, l⟩ else none by
      rw [HE.out]
      by_cases hk : Tr.ok ⟨c, u.t == 166, u.r, x.n, y.s, l⟩ = true
      · rw [if_pos hk, if_pos ⟨⟨beq_eq_false_iff_ne.1 h1', hA, hB, hC, hD⟩, hk⟩]
      · rw [if_neg hk, if_neg (fun e => hk e.2)])
    clear hA hB hC hD HE PX bb hn0 hn3 hn4 hn1
    have hRt := HR5.out
    rw [HUL.out] at hRt
    have hcc := HC.out
    rw [HLN.out] at z4 hn2 hl hcc ⊢
    have hlx : LimT ⟨c, u.t == 166, u.r, x.n, y.s, l⟩ := by
      have hm := HX.out
      rw [HUL.out] at hm
      exact ⟨hc, (hm y (by simp)).2.1, (show l.length ≤ 1000000 by omega), ⟨(hm x (by simp)).2.2, fun z hz => (hm z (by simp [hz])).2.2⟩, fun z hz => hm z (by simp [hz])⟩
    have HCk := Lib.hid (fun ao cap hsh w1 (h : RdB w1 ao l) => qcheck9_walk ⟨c, u.t == 166, u.r, x.n, y.s, l⟩ ao cap hlx hsh w1 h)
    have hTl : RdB w5 (if cb = 2 then some ⟨b, off, none⟩ else some ⟨b, off + 8, none⟩) l := by
      by_cases h2 : cb = 2
      · exact .inl (by omega)
      · rw [if_neg h2]; exact hRt.drop2
    have hTs : ((if cb = 2 then some (⟨b, off, none⟩ : Addr) else some ⟨b, off + 8, none⟩) = none ∧ l.length = 0 ∧ cb - 2 = 0) ∨ ∃ a, (if cb = 2 then some (⟨b, off, none⟩ : Addr) else some ⟨b, off + 8, none⟩) = some a := by
      by_cases h2 : cb = 2
      · exact .inr ⟨⟨b, off, none⟩, if_pos h2⟩
      · exact .inr ⟨⟨b, off + 8, none⟩, if_neg h2⟩
    have a6 := alloc_in w5 (.cells #[.string (bs c), .bool (u.t == 166), .int .i64 u.r, .int .i64 x.n, .string (bs y.s), .slice none 0 0] 27)
    have hT6 := rowNew w5 (.cells #[.string (bs c), .bool (u.t == 166), .int .i64 u.r, .int .i64 x.n, .string (bs y.s), .slice none 0 0] 27)
    have hl6 := hTl.below a6
    have hu6 := hu5.below a6
    have ht6 := ht5.below a6
    have b6 := hb5.trans (a6.mono hb5.size)
    have hs6 : w.heap.size ≤ (w5.alloc (.cells #[.string (bs c), .bool (u.t == 166), .int .i64 u.r, .int .i64 x.n, .string (bs y.s), .slice none 0 0] 27)).heap.size := b6.size
    have hN6 := OwnB.nil (w5.alloc (.cells #[.string (bs c), .bool (u.t == 166), .int .i64 u.r, .int .i64 x.n, .string (bs y.s), .slice none 0 0] 27)) w.heap.size 48
    have z6 : (w5.alloc (.cells #[.string (bs c), .bool (u.t == 166), .int .i64 u.r, .int .i64 x.n, .string (bs y.s), .slice none 0 0] 27)).cell? ⟨w.heap.size, 4, none⟩ = some (.slice (some ⟨b, off, none⟩) (l.length + 2) cb) := by have := hu6.cells.2.2.2.2; rw [HLN.out] at this; exact this
    have zS := And.intro (cellRow hT6 5) z6
    have y1 : (2 : Int) ≤ ((l.length : Nat) : Int) + 2 := by omega
    have hne6 : w.heap.size + 1 ≠ w5.heap.size := Nat.ne_of_lt (lt_of_block ht5)
    have hle5 : w.heap.size ≤ w5.heap.size := hb5.size
    have B6 : Below w.heap.size w (w5.alloc (.cells #[.string (bs c), .bool (u.t == 166), .int .i64 u.r, .int .i64 x.n, .string (bs y.s), .slice none 0 0] 27)).drew := ⟨b6.os, b6.tape, b6.output, b6.size, b6.block⟩
    have y2 : (2 : Int) ≤ ((l.length + 2 : Nat) : Int) := by omega
    clear a6 hTl hRt hu5 ht5 hb5 c0 c1 c2 c3 c4 c5 f0 f1 f2 f3 f4 f5 hlx
    go_wp2_with fail
    clear z0 z1 z2 z3 z4 p2 p3 q2 q3 p0' p1' q0' q1'
    have z5 : (w5.alloc (.cells #[.string (bs c), .bool (u.t == 166), .int .i64 u.r, .int .i64 x.n, .string (bs y.s), .slice none 0 0] 27)).cell? ⟨w5.heap.size, 5, none⟩ = some (.slice none 0 0) := cellRow hT6 5
    clear zS
    generalize w5.alloc (.cells #[.string (bs c), .bool (u.t == 166), .int .i64 u.r, .int .i64 x.n, .string (bs y.s), .slice none 0 0] 27) = w6 at *
    have zd5 : ({ heap := w6.heap, tape := w6.tape, drawn := w6.drawn + 1, os := w6.os, output := w6.output } : World).cell? ⟨w5.heap.size, 5, none⟩ = some (.slice none 0 0) := z5
    have zd6 : ({ heap := w6.heap, tape := w6.tape, drawn := w6.drawn + 1, os := w6.os, output := w6.output } : World).cell? ⟨w.heap.size, 4, none⟩ = some (.slice (some ⟨b, off, none⟩) (l.length + 2) cb) := z6
    go_still_tail 5, (by kernel_rfl)
    change wpList _ _ _ _ _ w6.drew
    clear zd5 zd6 z5 z6 y1 y2
    have hNn := OwnB.nil w6.drew w.heap.size 48
    have hsd : w.heap.size ≤ w6.drew.heap.size := hs6
    have hld : RdB w6.drew (if cb = 2 then some ⟨b, off, none⟩ else some ⟨b, off + 8, none⟩) l := hl6
    have hTd : w6.drew.heap[w5.heap.size]? = some (.cells #[.string (bs c), .bool (u.t == 166), .int .i64 u.r, .int .i64 x.n, .string (bs y.s), .slice none 0 0] 27 (0, 0)) := hT6
    have hqd : Tq w6.drew (w.heap.size + 1) not9 none 0 := ht6
    have bd : Below w.heap.size w w6.drew := ⟨b6.os, b6.tape, b6.output, b6.size, b6.block⟩
    go_wp2_with (at_builtin; go_loud (refine spreadL (xs := []) rfl rfl _ rfl hNn hsd rfl hld hTs (by show (0 + l.length) * 48 ≤ _; omega) ?_))
    all_goals
      intro v1 x1 ho1 hg1
      obtain ⟨a1, c1, hv1, hr1⟩ := OwnB.form ho1
      subst hv1
      have hc1 := OwnB.capOf ho1
      have b1 := bd.grown hg1 hsd (fun k hk => by simp [Value.ownBlock] at hk)
      have hT7 := spread_keep hNn hg1 hTd (by decide)
      have hq7 : Tq x1 (w.heap.size + 1) not9 none 0 := spread_keep hNn hg1 hqd (by decide)
      have t0 : x1.cell? ⟨w5.heap.size, 0, none⟩ = some (.string (bs c)) := cellRow hT7 0
      have t1 : x1.cell? ⟨w5.heap.size, 1, none⟩ = some (.bool (u.t == 166)) := cellRow hT7 1
      have t2 : x1.cell? ⟨w5.heap.size, 2, none⟩ = some (.int .i64 u.r) := cellRow hT7 2
      have t3 : x1.cell? ⟨w5.heap.size, 3, none⟩ = some (.int .i64 x.n) := cellRow hT7 3
      have t4 : x1.cell? ⟨w5.heap.size, 4, none⟩ = some (.string (bs y.s)) := cellRow hT7 4
      have t5 : x1.cell? ⟨w5.heap.size, 5, none⟩ = some (.slice none 0 0) := cellRow hT7 5
      have f5 : x1.frozen? ⟨w5.heap.size, 5, none⟩ = false := freeRow hT7 5
      have hT8 : Tq (x1.setCell ⟨w5.heap.size, 5, none⟩ (.slice a1 l.length c1)) w5.heap.size ⟨c, u.t == 166, u.r, x.n, y.s, l⟩ a1 c1 := by
        have := rowSet hT7 5 (.slice a1 l.length c1)
        simpa [Tq] using this
      have ho8 := own_set ho1 hT7 (by decide) 5 (.slice a1 l.length c1)
      have hr8 : RdB (x1.setCell ⟨w5.heap.size, 5, none⟩ (.slice a1 l.length c1)) a1 l := by
        obtain ⟨a9, c9, h9, r9⟩ := OwnB.form (xs := l) ho8
        simp only [Value.slice.injEq, true_and] at h9
        obtain ⟨rfl, _⟩ := h9
        exact r9
      have hq8 : Tq (x1.setCell ⟨w5.heap.size, 5, none⟩ (.slice a1 l.length c1)) (w.heap.size + 1) not9 none 0 := (Below.heap_setCell _ _ _ _ (by show w.heap.size + 1 ≠ w5.heap.size; exact hne6)).trans hq7
      have b8 := b1.setCell (p := ⟨w5.heap.size, 5, none⟩) (by show w.heap.size ≤ w5.heap.size; exact hle5) (.slice a1 l.length c1)
      have HO8 := Lib.hid (show OwnB (x1.setCell ⟨w5.heap.size, 5, none⟩ (.slice a1 l.length c1)) w.heap.size 48 (.slice a1 l.length c1) l from ho8)
      clear hNn hsd hld hTd hqd bd hg1 ho1 hr1 b1 hT7 hq7 ho8 hu6 ht6 hT6 hl6 b6 B6 hs6 hN6
      unfold tcE at HCk
      cases hk : Tr.ok ⟨c, u.t == 166, u.r, x.n, y.s, l⟩
      all_goals
        rw [hk] at HCk HE3
        go_wp2_with fail
        clear t0 t1 t2 t3 t4 t5 f5
        generalize x1.setCell ⟨w5.heap.size, 5, none⟩ (.slice a1 l.length c1) = x2 at *
        obtain ⟨t0, t1, t2, t3, t4, t5⟩ := hT8.cells
        obtain ⟨c0, c1', c2, c3, c4, c5⟩ := hq8.cells
        have f0 := hq8.free 0
        have f1 := hq8.free 1
        have f2 := hq8.free 2
        have f3 := hq8.free 3
        have f4 := hq8.free 4
        have f5 := hq8.free 5
        go_region_with (first
          | (go_at_call 20; refine (HCk.out a1 c1 hc1.2 _ (by exact hr8)).mono ?_; rintro e x3 ⟨rfl, j3⟩; have k3 : Below x2.heap.size x2 x3 := ⟨j3.os, j3.tape, j3.output, j3.size, j3.block⟩; have hT9 := hT8.below k3; have hq9 := hq8.below k3; have b9 := b8.trans (k3.mono b8.size); have HO9 := Lib.hid (HO8.out.below k3); obtain ⟨s0, s1, s2, s3, s4, s5⟩ := hT9.cells; obtain ⟨r0, r1, r2, r3, r4, r5⟩ := hq9.cells; have g0 := hq9.free 0; have g1 := hq9.free 1; have g2 := hq9.free 2; have g3 := hq9.free 3; have g4 := hq9.free 4; have g5 := hq9.free 5))
        all_goals
          have PX := hq9.set ⟨c, u.t == 166, u.r, x.n, y.s, l⟩ a1 c1
          have bb := below_set6 b9 (b := w.heap.size + 1) (Nat.le_succ _) (.string (bs c)) (.bool (u.t == 166)) (.int .i64 u.r) (.int .i64 x.n) (.string (bs y.s)) (.slice a1 l.length c1)
          have HO := Lib.hid (own_set6 HO9.out hq9 (by decide) (.string (bs c)) (.bool (u.t == 166)) (.int .i64 u.r) (.int .i64 x.n) (.string (bs y.s)) (.slice a1 l.length c1))
          clear t0 t1 t2 t3 t4 t5 c0 c1' c2 c3 c4 c5 f0 f1 f2 f3 f4 f5 s0 s1 s2 s3 s4 s5 r0 r1 r2 r3 r4 r5 g0 g1 g2 g3 g4 g5 hT9 hq9 b9 k3 j3 hT8 hq8 hr8 b8
          go_wp2
          refine bodyPost_ret (results_cell_row2 rfl _ _ (w.heap.size + 1) _ _ _ _ rfl PX Tryz.underlying27 rfl (by kernel_rfl)) rfl ?_
          obtain ⟨a9, c9, h9, r9⟩ := OwnB.form (xs := l) HO.out
          simp only [Value.slice.injEq, true_and] at h9
          obtain ⟨rfl, _⟩ := h9
          have bz := bb
          have hnw := OwnB.newOf (xs := l) HO.out
          first
            | exact ⟨⟨c, u.t == 166, u.r, x.n, y.s, l⟩, a1, c1, true, rfl, r9, ⟨bz.os, bz.tape, bz.output, bz.size, bz.block⟩, hnw, ⟨fun _ => (by rw [HE3.out]; rfl), fun h => Bool.noConfusion h⟩⟩
            | exact ⟨⟨c, u.t == 166, u.r, x.n, y.s, l⟩, a1, c1, false, rfl, r9, ⟨bz.os, bz.tape, bz.output, bz.size, bz.block⟩, hnw, ⟨fun h => Bool.noConfusion h, fun _ => (by rw [HE3.out]; rfl)⟩⟩
theorem qof9_walk (c : List UInt8) (hc : c.length ≤ 140737488351232) (u : Un) (bo : Option Addr) (cb : Nat) (hl : u.l.length ≤ 1000000) (hcap : u.l.length ≤ cb) (hx : Lim u.l) (w : World) (hr : RdB w bo u.l) :
    Calls Tryz.prog 30 #[.string (bs c), .agg #[.int .i64 u.t, .int .i64 u.r, .int .i64 u.a, .int .i64 u.i, .slice bo u.l.length cb]] w (OfPost c u w) := by
  by_cases h : u.t = 162 ∨ u.l.length < 2
  · exact qof9_few c u bo cb w h
  · have h1 : u.t ≠ 162 := fun e => h (.inl e)
    have h2 : ¬ u.l.length < 2 := fun e => h (.inr e)
    match hu : u.l with
    | [] => rw [hu] at h2; simp at h2
    | [x] => rw [hu] at h2; simp at h2
    | x :: y :: l => rw [← hu]; exact qof9_go c hc u bo cb hl hcap hx w hr h1 x y l hu
end Go.Proofs.YtmdibafofdghgaaGreatDoor
