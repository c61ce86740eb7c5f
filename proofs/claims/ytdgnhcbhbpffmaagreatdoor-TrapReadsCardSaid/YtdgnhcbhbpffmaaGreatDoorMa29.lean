/- Texts on the program and on the document, joined: TrpB, TrpC. -/
import Derived.Test.YtdgnhcbhbpffmaaGreatDoorMa28
import Derived.Test.YtdgnhcbhbpffmaaGreatDoorMa21
import Derived.Test.YtdgnhcbhbpffmaaGreatDoorMa24
/- The document's Check, message, Encode, Answer of traps, walked. -/
namespace Go.Proofs.YtdgnhcbhbpffmaaGreatDoor
open Go.ChangeShapes Go.WideShapes Go.ChangeAt Go.RowKit K P1 B5
open D8 (Bd Un lst)
open T9 (Tr bU bI msg msgB)
set_option linter.unusedVariables false

def tcE (t : Tr) : Nat := if t.ok then 0 else 90
def mgE (c : List UInt8) (u : Un) : Nat := if (msg c u).length ≤ 65535 then 0 else 2
def mgS (c : List UInt8) (u : Un) : List UInt8 := if (msg c u).length ≤ 65535 then msg c u else []
def teE (t : Tr) : Nat := if t.ok then mgE t.c t.un else 90
def teS (t : Tr) : List UInt8 := if t.ok then mgS t.c t.un else []
def taE (t : Tr) : Nat := if t.ok then (if t.f then mgE t.c (t.as 162) else 5) else 90
def taS (t : Tr) : List UInt8 := if t.ok then (if t.f then mgS t.c (t.as 162) else []) else []
/-- Traps that are not too long for a walk. -/
def LimT (t : Tr) : Prop := t.c.length ≤ 140737488351232 ∧ t.o.length ≤ 140737488351232 ∧ t.l.length ≤ 1000000 ∧ t.fits ∧ Lim t.l
theorem LimT.as {t : Tr} (h : LimT t) (g : Int) : Lim (t.as g).l := by
  obtain ⟨_, h2, _, h4, h5⟩ := h
  intro x hx
  rcases List.mem_cons.1 hx with rfl | hx
  · exact ⟨(show T9.UPT.length ≤ 140737488351232 by decide), (show ([] : List UInt8).length ≤ _ by simp), h4.1⟩
  · rcases List.mem_cons.1 hx with rfl | hx
    · exact ⟨(show T9.IDO.length ≤ 140737488351232 by decide), h2, T9.Tr.fit h4 g _ (List.mem_cons_of_mem _ (List.mem_cons_self))⟩
    · exact h5 x hx
theorem un_of {t : Tr} (h : t.ok = true) : t.un.ok = true ∧ 1 ≤ t.c.length ∧ t.c.length ≤ 64 := ⟨((T9.Tr.ok_iff t).1 h).2, ((T9.Tr.ok_iff t).1 h).1.1, ((T9.Tr.ok_iff t).1 h).1.2⟩
set_option maxRecDepth 100000 in
set_option maxHeartbeats 1000000 in
theorem qcheck9_walk (t : Tr) (ao : Option Addr) (cap : Nat) (hx : LimT t) (hsh : ((ao = none ∧ t.l.length = 0 ∧ cap = 0) ∨ ∃ a, ao = some a)) (w : World) (hr : RdB w ao t.l) :
    Calls Tryz.prog 20 #[.agg #[.string (bs t.c), .bool t.f, .int .i64 t.r, .int .i64 t.n, .string (bs t.o), .slice ao t.l.length cap]] w fun e w' => e = .returned (.int .i64 (tcE t : Nat)) ∧ Below w.heap.size w w' := by
  obtain ⟨hc, ho, hl, hft, hlm⟩ := hx
  have hba := alloc_in w (.cells #[.string (bs t.c), .bool t.f, .int .i64 t.r, .int .i64 t.n, .string (bs t.o), .slice ao t.l.length cap] 27)
  have hr1 := hr.below hba
  have HU := Lib.hid (fun w1 (h : RdB w1 ao t.l) => qunit9_walk t ao cap hl hsh w1 h)
  have hC : ∀ bo cb w1, RdB w1 bo (t.as 0).l → Calls Tryz.prog 39 #[.agg #[.int .i64 t.tag, .int .i64 t.r, .int .i64 0, .int .i64 0, .slice bo (t.l.length + 2) cb]] w1 fun e w' => e = .returned (.int .i64 (ckU t.un : Nat)) ∧ Below w1.heap.size w1 w' :=
    fun bo cb w1 h => qcheck8_walk t.un bo cb (show t.l.length + 2 ≤ _ by omega) (LimT.as ⟨hc, ho, hl, hft, hlm⟩ t.tag) w1 h
  have HR := Lib.hid hr1
  clear hr hr1
  by_cases h1 : t.c.length < 1
  · rw [show tcE t = 90 by unfold tcE T9.Tr.ok; rw [decide_eq_false (by omega : ¬ 1 ≤ t.c.length)]; rfl]
    have h1' : ((t.c.length : Nat) : Int) < 1 := by omega
    clear h1 hC HU
    go_enter Tryz.func20, Tryz.ntmps20
    go_wp2
    go_ret
    exact ⟨rfl, hba⟩
  by_cases h2 : 64 < t.c.length
  · rw [show tcE t = 90 by unfold tcE T9.Tr.ok; rw [decide_eq_false (by omega : ¬ t.c.length ≤ 64), Bool.and_false]; rfl]
    have h1' : (1 : Int) ≤ ((t.c.length : Nat) : Int) := by omega
    have h2' : (64 : Int) < ((t.c.length : Nat) : Int) := by omega
    clear h1 h2 hC HU
    go_enter Tryz.func20, Tryz.ntmps20
    go_wp2
    go_ret
    exact ⟨rfl, hba⟩
  have h1' : (1 : Int) ≤ ((t.c.length : Nat) : Int) := by omega
  have h2' : ((t.c.length : Nat) : Int) ≤ 64 := by omega
  have hE : tcE t = if t.un.ok then 0 else 90 := by
    unfold tcE T9.Tr.ok; rw [decide_eq_true (by omega : 1 ≤ t.c.length), decide_eq_true (by omega : t.c.length ≤ 64)]; rfl
  rw [hE]
  unfold ckU at hC
  cases hk : t.un.ok
  all_goals
    rw [hk] at hC
    have HC := Lib.hid hC
    clear hC h1 h2 hE hk
    go_enter Tryz.func20, Tryz.ntmps20
    go_wp2_with fail
    refine (HU.out _ HR.out).mono ?_
    rintro e w1 ⟨bo, cb, rfl, hr2, b1⟩
    go_wp2_with fail
    refine (HC.out _ _ _ hr2).mono ?_
    rintro e w2 ⟨rfl, b2⟩
    go_wp2
    go_ret
    exact ⟨rfl, (Below_in b1).trans (b2.mono (Below_in b1).size)⟩
set_option maxRecDepth 100000 in
set_option maxHeartbeats 1000000 in
theorem qmessage9_walk (c : List UInt8) (hc : c.length ≤ 64) (u : Un) (hk : u.ok = true) (ao : Option Addr) (cap : Nat) (hx : Lim u.l) (w : World) (hr : RdB w ao u.l) :
    Calls Tryz.prog 35 #[.string (bs c), .agg #[.int .i64 u.t, .int .i64 u.r, .int .i64 u.a, .int .i64 u.i, .slice ao u.l.length cap]] w fun e w' => e = .returned (.tuple #[.string (bs (mgS c u)), .int .i64 (mgE c u : Nat)]) ∧ Below w.heap.size w w' := by
  obtain ⟨l1, l2, l3⟩ := T9.msg_len hc hk
  have l4 := T9.el_bound hk
  have hba := alloc_in w (.cells #[.int .i64 u.t, .int .i64 u.r, .int .i64 u.a, .int .i64 u.i, .slice ao u.l.length cap] 60)
  have huq := Uq.new 60 w u ao cap
  have HR := Lib.hid (hr.below hba)
  have hP4 : ∀ w1, Calls Tryz.prog 55 #[.int .i64 4, .string (bs c)] w1 fun e w' => e = .returned (.string (bs (put 4 c))) ∧ Below w1.heap.size w1 w' := fun w1 => qput_walk 4 (by omega) c (by omega) w1
  have hPm : ∀ w1, Calls Tryz.prog 55 #[.int .i64 48, .string (({ data := #[2, 1, 1] } : ByteArray) ++ bs (put 4 c) ++ bs u.el)] w1 fun e w' => e = .returned (.string (bs (msg c u))) ∧ Below w1.heap.size w1 w' := by
    intro w1
    have := qput_walk 48 (by omega) (msgB c u) (by omega) w1
    rw [show bs (msgB c u) = ({ data := #[2, 1, 1] } : ByteArray) ++ bs (put 4 c) ++ bs u.el by unfold msgB; rw [← List.append_assoc, ← bs_append, ← bs_append]; rfl] at this
    exact this
  have HPu := Lib.hid (fun w1 (h : RdB w1 ao u.l) => qput8_walk u ao cap hk hx w1 h)
  have HP4 := Lib.hid hP4
  have HPm := Lib.hid hPm
  have hE : mgE c u = if (msg c u).length ≤ 65535 then 0 else 2 := rfl
  have hS : mgS c u = if (msg c u).length ≤ 65535 then msg c u else [] := rfl
  rw [hE, hS]
  clear hr hP4 hPm l2 hE hS hx hk
  generalize put 4 c = P4 at *
  generalize u.el = EL at *
  generalize msg c u = M at *
  have hc1 : (9223372036854775807 < 3 + P4.length) = False := eq_false (by omega)
  have hc2 : (9223372036854775807 < 3 + P4.length + EL.length) = False := eq_false (by omega)
  by_cases hM : M.length ≤ 65535
  · rw [if_pos hM, if_pos hM]
    have hM' : ((M.length : Nat) : Int) ≤ 65535 := by omega
    clear hM
    go_enter Tryz.func35, Tryz.ntmps35
    go_wp2_with fail
    generalize w.alloc (.cells #[.int .i64 u.t, .int .i64 u.r, .int .i64 u.a, .int .i64 u.i, .slice ao u.l.length cap] 60) = w0 at *
    have zS := huq.cells
    go_region_held3 (fun x => x.cell? ⟨w.heap.size, 0, none⟩ = some (.int .i64 u.t) ∧ x.cell? ⟨w.heap.size, 1, none⟩ = some (.int .i64 u.r) ∧ x.cell? ⟨w.heap.size, 2, none⟩ = some (.int .i64 u.a) ∧ x.cell? ⟨w.heap.size, 3, none⟩ = some (.int .i64 u.i) ∧ x.cell? ⟨w.heap.size, 4, none⟩ = some (.slice ao u.l.length cap)) (first | exact zS | exact zS1 | exact zS2 | exact zS3)
      (first
        | (go_at_call 55; (with_reducible refine (HP4.out _).mono ?_); rintro e x1 ⟨rfl, j1⟩; have k1 : Below w0.heap.size w0 x1 := ⟨j1.os, j1.tape, j1.output, j1.size, j1.block⟩; have hb1 := hba.trans (k1.mono hba.size); have hq1 := huq.below k1; have HR1 := Lib.hid (HR.out.below k1); have zS1 := hq1.cells)
        | (go_at_call 56; refine (HPu.out _ (by exact HR1.out)).mono ?_; rintro e x2 ⟨rfl, j2⟩; have k2 : Below x1.heap.size x1 x2 := ⟨j2.os, j2.tape, j2.output, j2.size, j2.block⟩; have hb2 := hb1.trans (k2.mono hb1.size); have hq2 := hq1.below k2; have zS2 := hq2.cells)
        | (go_at_call 55; (with_reducible refine (HPm.out _).mono ?_); rintro e x3 ⟨rfl, j3⟩; have k3 : Below x2.heap.size x2 x3 := ⟨j3.os, j3.tape, j3.output, j3.size, j3.block⟩; have hb3 := hb2.trans (k3.mono hb2.size); have hq3 := hq2.below k3; have zS3 := hq3.cells))
    go_wp2
    go_ret2
    exact ⟨rfl, hb3⟩
  · rw [if_neg hM, if_neg hM]
    have hM' : (65535 : Int) < ((M.length : Nat) : Int) := by omega
    clear hM
    go_enter Tryz.func35, Tryz.ntmps35
    go_wp2_with fail
    generalize w.alloc (.cells #[.int .i64 u.t, .int .i64 u.r, .int .i64 u.a, .int .i64 u.i, .slice ao u.l.length cap] 60) = w0 at *
    have zS := huq.cells
    go_region_held3 (fun x => x.cell? ⟨w.heap.size, 0, none⟩ = some (.int .i64 u.t) ∧ x.cell? ⟨w.heap.size, 1, none⟩ = some (.int .i64 u.r) ∧ x.cell? ⟨w.heap.size, 2, none⟩ = some (.int .i64 u.a) ∧ x.cell? ⟨w.heap.size, 3, none⟩ = some (.int .i64 u.i) ∧ x.cell? ⟨w.heap.size, 4, none⟩ = some (.slice ao u.l.length cap)) (first | exact zS | exact zS1 | exact zS2 | exact zS3)
      (first
        | (go_at_call 55; (with_reducible refine (HP4.out _).mono ?_); rintro e x1 ⟨rfl, j1⟩; have k1 : Below w0.heap.size w0 x1 := ⟨j1.os, j1.tape, j1.output, j1.size, j1.block⟩; have hb1 := hba.trans (k1.mono hba.size); have hq1 := huq.below k1; have HR1 := Lib.hid (HR.out.below k1); have zS1 := hq1.cells)
        | (go_at_call 56; refine (HPu.out _ (by exact HR1.out)).mono ?_; rintro e x2 ⟨rfl, j2⟩; have k2 : Below x1.heap.size x1 x2 := ⟨j2.os, j2.tape, j2.output, j2.size, j2.block⟩; have hb2 := hb1.trans (k2.mono hb1.size); have hq2 := hq1.below k2; have zS2 := hq2.cells)
        | (go_at_call 55; (with_reducible refine (HPm.out _).mono ?_); rintro e x3 ⟨rfl, j3⟩; have k3 : Below x2.heap.size x2 x3 := ⟨j3.os, j3.tape, j3.output, j3.size, j3.block⟩; have hb3 := hb2.trans (k3.mono hb2.size); have hq3 := hq2.below k3; have zS3 := hq3.cells))
    go_wp2
    go_ret2
    exact ⟨rfl, hb3⟩
end Go.Proofs.YtdgnhcbhbpffmaaGreatDoor
/- The document's parts of a message, walked. -/
namespace Go.Proofs.YtdgnhcbhbpffmaaGreatDoor
open Go.ChangeShapes Go.WideShapes Go.ChangeAt Go.RowKit K P1 B5
open D8 (Bd Un lst)
open T9 (Tr bU bI msg msgB)
set_option linter.unusedVariables false

/-- What parts hands back: the list, and whether they are three of one element, whole. -/
def PsPost (s : List UInt8) (w : World) (e : Ending) (w' : World) : Prop :=
  ∃ v ps ok, e = .returned (.tuple #[v, .bool ok]) ∧ OwnP w' w.heap.size 57 v ps ∧ Below w.heap.size w w' ∧
    ((ok = true ∧ nxOk s = true ∧ nxR s = [] ∧ nxT s = 48 ∧ prt 0 (nxB s) = .ok ps ∧ ps.length = 3) ∨
     (ok = false ∧ ¬ (nxOk s = true ∧ nxR s = [] ∧ nxT s = 48 ∧ ∃ ps', prt 0 (nxB s) = .ok ps' ∧ ps'.length = 3)))
theorem PsPost.no {s : List UInt8} {w w' : World} (h : ¬ (nxOk s = true ∧ nxR s = [] ∧ nxT s = 48 ∧ ∃ ps', prt 0 (nxB s) = .ok ps' ∧ ps'.length = 3)) (k : Below w.heap.size w w') : PsPost s w (.returned (.tuple #[.slice none 0 0, .bool false])) w' :=
  ⟨_, [], false, rfl, OwnP.nil _ _ _, k, .inr ⟨rfl, h⟩⟩
set_option maxRecDepth 100000 in
set_option maxHeartbeats 1000000 in
theorem qpartsof_walk (s : List UInt8) (hs : s.length ≤ 140737488351232) (w : World) :
    Calls Tryz.prog 27 #[.string (bs s), .int .i64 48, .int .i64 3] w (PsPost s w) := by
  have HNO := Lib.hid (fun (w' : World) (h : ¬ (nxOk s = true ∧ nxR s = [] ∧ nxT s = 48 ∧ ∃ ps', prt 0 (nxB s) = .ok ps' ∧ ps'.length = 3)) (k : Below w.heap.size w w') => PsPost.no h k)
  cases hx : nxOk s
  · have HN := Lib.hid (qnext_no s hs hx w)
    have HE := Lib.hid (show ¬ (nxOk s = true ∧ nxR s = [] ∧ nxT s = 48 ∧ ∃ ps', prt 0 (nxB s) = .ok ps' ∧ ps'.length = 3) from fun h => by rw [hx] at h; exact absurd h.1 (by simp))
    clear hx
    go_enter Tryz.func27, Tryz.ntmps27
    go_wp2_with fail
    refine HN.out.mono ?_
    rintro e w1 ⟨rfl, b1⟩
    have b2 := b1.trans ((alloc_in w1 (.cells #[.int .i64 0, .string (bs [])] 57)).mono b1.size)
    go_wp2
    go_ret2
    exact HNO.out _ HE.out b2
  · have HN := Lib.hid (qnext_ok s hs hx w)
    have hbl := (nx_of hx).2.2.2.2
    by_cases hR : nxR s = []
    rotate_left
    · have hne : (nxR s).isEmpty = false := List.isEmpty_eq_false_iff.2 hR
      have HE := Lib.hid (show ¬ (nxOk s = true ∧ nxR s = [] ∧ nxT s = 48 ∧ ∃ ps', prt 0 (nxB s) = .ok ps' ∧ ps'.length = 3) from fun h => hR h.2.1)
      clear hR hx hbl
      obtain ⟨T, hT⟩ : ∃ x, nxT s = x := ⟨_, rfl⟩
      obtain ⟨B, hB⟩ : ∃ x, nxB s = x := ⟨_, rfl⟩
      rw [hT, hB] at HN
      generalize nxR s = R at *
      clear hT hB
      go_enter Tryz.func27, Tryz.ntmps27
      go_wp2_with fail
      refine HN.out.mono ?_
      rintro e w1 ⟨rfl, b1⟩
      have b2 := b1.trans ((alloc_in w1 (.cells #[.int .i64 (T : Nat), .string (bs B)] 57)).mono b1.size)
      go_wp2
      go_ret2
      exact HNO.out _ HE.out b2
    by_cases hT : nxT s = 48
    rotate_left
    · have hne : (((nxT s : Nat) : Int) != 48) = true := by rw [bne_iff_ne]; omega
      have HE := Lib.hid (show ¬ (nxOk s = true ∧ nxR s = [] ∧ nxT s = 48 ∧ ∃ ps', prt 0 (nxB s) = .ok ps' ∧ ps'.length = 3) from fun h => hT h.2.2.1)
      rw [hR] at HN
      clear hR hx hT hbl
      obtain ⟨B, hB⟩ : ∃ x, nxB s = x := ⟨_, rfl⟩
      rw [hB] at HN
      generalize nxT s = T at *
      clear hB
      go_enter Tryz.func27, Tryz.ntmps27
      go_wp2_with fail
      refine HN.out.mono ?_
      rintro e w1 ⟨rfl, b1⟩
      have b2 := b1.trans ((alloc_in w1 (.cells #[.int .i64 (T : Nat), .string (bs B)] 57)).mono b1.size)
      go_wp2
      go_ret2
      exact HNO.out _ HE.out b2
    have HP := Lib.hid (fun w1 => qparts_walk (nxB s) (by omega) w1)
    unfold QaPost at HP
    have HY := Lib.hid (show ∀ ps, prt 0 (nxB s) = .ok ps → ps.length = 3 → (nxOk s = true ∧ nxR s = [] ∧ nxT s = 48 ∧ prt 0 (nxB s) = .ok ps ∧ ps.length = 3) from fun ps h1 h2 => ⟨hx, hR, hT, h1, h2⟩)
    have HE := Lib.hid (show ∀ x, prt 0 (nxB s) = x → (∀ ps, x = .ok ps → ps.length ≠ 3) → ¬ (nxOk s = true ∧ nxR s = [] ∧ nxT s = 48 ∧ ∃ ps', prt 0 (nxB s) = .ok ps' ∧ ps'.length = 3) from fun x h1 h2 h => by
      obtain ⟨_, _, _, ps', h3, h4⟩ := h
      rw [h1] at h3
      exact h2 ps' h3 h4)
    rw [hR, hT] at HN
    clear hR hT hx hbl
    obtain ⟨B, hB⟩ : ∃ x, nxB s = x := ⟨_, rfl⟩
    rw [hB] at HN HP HY HE
    have HBB := Lib.hid hB
    clear hB
    go_enter Tryz.func27, Tryz.ntmps27
    go_wp2_with fail
    refine HN.out.mono ?_
    rintro e w1 ⟨rfl, b1⟩
    have b2 := b1.trans ((alloc_in w1 (.cells #[.int .i64 48, .string (bs B)] 57)).mono b1.size)
    clear b1
    go_wp2_with fail
    refine (HP.out _).mono ?_
    rintro e w3 (⟨c, h', rfl, d3⟩ | ⟨ps, v, h', rfl, ho, d3⟩)
    · have hc : (((c : Nat) : Int) == 0) = false := by rw [beq_eq_false_iff_ne]; rcases prt_err h' with rfl | rfl <;> decide
      have hE := HE.out _ h' (fun ps h => by cases h)
      have HE2 := Lib.hid hE
      have b3 := b2.trans (d3.mono b2.size)
      clear h' hE
      go_wp2
      go_ret2
      exact HNO.out _ (by rw [HBB.out]; exact HE2.out) b3
    · have b3 := b2.trans (d3.mono b2.size)
      have ho3 := ho.mono b2.size
      obtain ⟨ao, cap, rfl, hf⟩ := ho.form
      clear hf ho
      by_cases h3 : ps.length = 3
      · have HF := Lib.hid (HY.out ps h' h3)
        have HO := Lib.hid ho3
        have h3' : (((ps.length : Nat) : Int) == 3) = true := by rw [h3]; rfl
        clear h' ho3 h3
        go_wp2
        go_ret2
        exact ⟨_, ps, true, rfl, HO.out, b3, .inl ⟨rfl, by rw [HBB.out]; exact HF.out⟩⟩
      · have hE := HE.out _ h' (fun ps' h => by injection h with h; rw [← h]; exact h3)
        have HE2 := Lib.hid hE
        have HO := Lib.hid ho3
        have h3' : (((ps.length : Nat) : Int) == 3) = false := by rw [beq_eq_false_iff_ne]; omega
        clear h' ho3 h3 hE
        go_wp2
        go_ret2
        exact ⟨_, ps, false, rfl, HO.out, b3, .inr ⟨rfl, by rw [HBB.out]; exact HE2.out⟩⟩
end Go.Proofs.YtdgnhcbhbpffmaaGreatDoor
