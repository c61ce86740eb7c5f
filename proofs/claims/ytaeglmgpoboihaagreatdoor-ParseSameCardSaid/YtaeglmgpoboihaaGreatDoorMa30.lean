/- Texts on the program and on the document, joined: PaqT. -/
import Derived.Test.YtaeglmgpoboihaaGreatDoorMa25
import Derived.Test.YtaeglmgpoboihaaGreatDoorMa29
/- The program's Parse of a file of at most 4096 bytes, walked. -/
namespace Go.Proofs.YtaeglmgpoboihaaGreatDoor
open Go.ChangeShapes Go.WideShapes Go.ChangeAt Go.RowKit K L15 S3
open L14 (Tk)
set_option linter.unusedVariables false
set_option linter.unusedSimpArgs false
namespace PQ
/-! ### The program's Split of a short file is the document's -/
theorem split_room2 : ∀ (n M ln : Nat) (s : List UInt8) (e : Nat × Nat), s.length ≤ n → n ≤ M → L14.split M ln s = .error e → e.2 = 140 := by
  intro n
  induction n with
  | zero =>
    intro M ln s e hs hM h
    have : s = [] := List.length_eq_zero_iff.1 (by omega)
    subst this
    rw [L14.split_end (by rfl)] at h; cases h
  | succ n ih =>
    intro M ln s e hs hM h
    by_cases hr : L14.rst s = []
    · rw [L14.split_end hr] at h; cases h
    · cases hx : L14.nxt (L14.rst s) with
      | none => rw [L14.split_no hr hx] at h; injection h with h; subst h; rfl
      | some z =>
        obtain ⟨⟨k, t⟩, j⟩ := z
        obtain ⟨M, rfl⟩ : ∃ N, M = N + 1 := ⟨M - 1, by omega⟩
        rw [L14.split_go hr hx] at h
        have hn := L14.nxt_n hx
        have hl := L14.rst_len s
        cases hy : L14.split M (L14.lin ln s) ((L14.rst s).drop j) with
        | ok q => rw [hy] at h; cases h
        | error e2 =>
          rw [hy] at h
          injection h with h; subst h
          exact ih M _ _ e2 (by rw [List.length_drop]; omega) (by omega) hy
theorem pg_sp {s : List UInt8} (hs : s.length ≤ 4096) : L14.pgE s = spE s ∧ L14.pgN s = spN s ∧ L14.pgL s = spL s := by
  have h6 : s.length ≤ 65536 := by omega
  unfold spE spN spL
  rw [if_neg (by omega), if_neg (by omega), if_neg (by omega)]
  cases hx : L14.split 4096 1 s with
  | ok l => exact L14.pg_ok h6 hx
  | error e =>
    have h140 := split_room2 _ _ _ _ _ hs (Nat.le_refl _) hx
    have ha : L14.all14 s = .error e := by
      by_cases hle : s.length + 1 ≤ 4096
      · cases hy : L14.all14 s with
        | ok l =>
          have := (L14.split_wide _ (s.length + 1) 4096 1 s (Nat.le_refl _) hle).1 l hy
          rw [hx] at this; cases this
        | error e2 =>
          have h2 := L14.split_room _ (s.length + 1) 1 s e2 (Nat.le_refl _) (by omega) hy
          have := (L14.split_wide _ (s.length + 1) 4096 1 s (Nat.le_refl _) hle).2 e2 hy h2
          rw [hx] at this
          injection this with this
          rw [this]
      · exact (L14.split_wide _ 4096 (s.length + 1) 1 s (Nat.le_refl _) (by omega)).2 e hx h140
    obtain ⟨h1, h2, h3⟩ := L14.pg_er h6 ha
    exact ⟨h1.trans h140.symm, h2, h3⟩
theorem spl_tok (s : List UInt8) : TOk (spL s) := by
  unfold spL
  split
  · intro x hx; cases hx
  · cases hs : L14.split 4096 1 s with
    | error e => intro x hx; cases hx
    | ok l =>
      intro x hx
      have := (L14.split_is _ _ _ _ _ (Nat.le_refl _) hs).1
      unfold L14.allT L14.bare at this
      rw [List.all_map, List.all_eq_true] at this
      exact this x hx
theorem bko3 {w : World} {b B : Nat} {cs : Array Value} (h : w.heap[b]? = some (.cells cs 27 (0, 0))) (i : Nat) (u : Value) {p : Bv} (hk : BkO w B p) : BkO (w.setCell ⟨b, i, none⟩ u) B p :=
  ⟨hk.1.set h (by decide) i u, hk.2.1.set h (by decide) i u, hk.2.2.1.set h (by decide) i u, hk.2.2.2.1.set h (by decide) i u, hk.2.2.2.2.set h (by decide) i u⟩
theorem bko9 {w : World} {b B : Nat} {a0 a1 a2 : Value} (h : w.heap[b]? = some (.cells #[a0, a1, a2] 27 (0, 0))) (v0 v1 v2 : Value) {p : Bv} (hk : BkO w B p) : BkO (((w.setCell ⟨b, 0, none⟩ v0).setCell ⟨b, 1, none⟩ v1).setCell ⟨b, 2, none⟩ v2) B p :=
  bko3 (rowSet (rowSet h 0 v0) 1 v1) 2 v2 (bko3 (rowSet h 0 v0) 1 v1 (bko3 h 0 v0 hk))
def noBv : Bv := ⟨.slice none 0 0, [], .slice none 0 0, [], .slice none 0 0, noBk⟩
theorem bko_no (w : World) (B : Nat) : BkO w B noBv := ⟨OwnR.nil _ _ _ _, trivial, OwnR.nil _ _ _ _, trivial, OwnR.nil _ _ _ _⟩
set_option maxRecDepth 100000 in
set_option maxHeartbeats 2000000 in
theorem pparse_walk (s : List UInt8) (hs : s.length ≤ 4096) (W0 : World) (I : PaI W0) :
    Calls Tryz.prog 6 #[.string (bs s)] W0 fun e w' => Below W0.heap.size W0 w' ∧ ∃ p : Bv, e = .returned (.tuple #[p.v, .int .i64 (paN s : Nat), .int .i64 (paE s : Nat)]) ∧ BkO w' W0.heap.size p ∧ p.b = paB s := by
  obtain ⟨g1, g2, g3⟩ := pg_sp hs
  have HSP := Lib.hid (fun wx hx => lsplitC_walk s (by omega) wx hx)
  unfold PglPostC at HSP
  rw [g1, g2, g3] at HSP
  clear g1 g2 g3
  obtain ⟨hST, hT4⟩ := spl_short s
  have hTK := spl_tok s
  have a0 : Below W0.heap.size W0 (W0.alloc (.cells #[.slice none 0 0, .slice none 0 0, .slice none 0 0] 27)) := (Below.refl _ _).alloc (Nat.le_refl _) _
  have HR0 := Lib.hid (rowNew W0 (.cells #[.slice none 0 0, .slice none 0 0, .slice none 0 0] 27))
  have HB0 := Lib.hid a0
  have HI := Lib.hid I
  have HI0 := Lib.hid (I.below a0)
  have hsz0 : (W0.alloc (.cells #[.slice none 0 0, .slice none 0 0, .slice none 0 0] 27)).heap.size = W0.heap.size + 1 := World.size_alloc W0 _
  clear hs a0 I
  by_cases he : spE s = 0
  · have HPE := Lib.hid (show paE s = (match (parseT (spL s)).2 with | some _ => 150 | none => 0) ∧ paN s = (parseT (spL s)).2.getD 0 ∧ paB s = (match (parseT (spL s)).2 with | some _ => noBk | none => (parseT (spL s)).1) by unfold paE paN paB; rw [if_neg (fun h => h he), if_neg (fun h => h he), if_neg (fun h => h he)]; exact ⟨rfl, rfl, rfl⟩)
    rw [he] at HSP
    clear he
    generalize spN s = lnn at *
    generalize spL s = T at *
    go_enter Tryz.func6, Tryz.ntmps6
    go_wp2_with fail
    refine (HSP.out _ HI0.out.1).mono ?_
    rintro e w1 ⟨b1, ao, cap, rfl, hrd, hcap, hao⟩
    have R1 := (b1.block _ (by rw [hsz0]; exact Nat.lt_succ_self _)).trans HR0.out
    have B1 := HB0.out.trans (b1.mono (by rw [hsz0]; omega))
    have hlt1 := lt_of_block R1
    have a2 : Below w1.heap.size w1 (w1.alloc (.cells #[.slice ao T.length cap, .int .i64 0, .bool false] 58)) := (Below.refl _ _).alloc (Nat.le_refl _) _
    have R2 := (a2.block _ hlt1).trans R1
    have B2 := B1.trans (a2.mono B1.size)
    have I2 := rowNew w1 (.cells #[.slice ao T.length cap, .int .i64 0, .bool false] 58)
    have hJ : JnR (w1.alloc (.cells #[.slice ao T.length cap, .int .i64 0, .bool false] 58)) w1.heap.size T none 0 (lastL T) ⟨0, none⟩ :=
      ⟨ao, cap, I2, hrd.below a2, hao, by omega, Nat.zero_le _, hTK, rfl, hcap, hST, ⟨W0, HI.out, B1.size, B2⟩⟩
    have HK := Lib.hid (pbook_walk w1.heap.size T none 0 (lastL T) ⟨0, none⟩ rfl _ hJ)
    have hps : parseT T = ((books T (lastL T) (T.length + 2) noBk ⟨0, none⟩).1, (books T (lastL T) (T.length + 2) noBk ⟨0, none⟩).2.bad) := rfl
    have hW1 : W0.heap.size ≤ w1.heap.size := B1.size
    have hne : W0.heap.size ≠ w1.heap.size := by omega
    have HB2 := Lib.hid B2
    have HR2 := Lib.hid R2
    have hsz2 := World.size_alloc w1 (.cells #[.slice ao T.length cap, .int .i64 0, .bool false] 58)
    generalize books T (lastL T) (T.length + 2) noBk ⟨0, none⟩ = BS at *
    rw [hps] at HPE
    clear R1 B1 a2 R2 B2 I2 hJ hrd hcap hao b1 hlt1 hps
    go_wp2_with fail
    refine HK.out.mono ?_
    rintro e w3 ⟨p, rfl, ho, pp, heq⟩
    have R3 := kp_row16 pp.2 HR2.out hne
    have hb2 : W0.heap.size ≤ (w1.alloc (.cells #[.slice ao T.length cap, .int .i64 0, .bool false] 58)).heap.size := by rw [hsz2]; omega
    have B3 : Below W0.heap.size W0 w3 := HB2.out.trans (pp.2.below (B := W0.heap.size) hb2 (by intro x hx; simp at hx; omega))
    have ho3 := ho.mono hb2
    obtain ⟨vq, cq, hbq, -⟩ := pp.1
    have y0 : World.cell? w3 ⟨W0.heap.size, 0, none⟩ = some (.slice none 0 0) := cellRow R3 0
    have y1 : World.cell? w3 ⟨W0.heap.size, 1, none⟩ = some (.slice none 0 0) := cellRow R3 1
    have y2 : World.cell? w3 ⟨W0.heap.size, 2, none⟩ = some (.slice none 0 0) := cellRow R3 2
    have f0 := freeRow R3 0
    have f1 := freeRow R3 1
    have f2 := freeRow R3 2
    obtain ⟨ta, tc, ra, rc, wa, wc, e1, e2, e3, -, -, -⟩ := ho3.form
    have hv : p.v = .agg #[.slice ta p.b.tb.length tc, .slice ra p.b.ru.length rc, .slice wa p.b.wt.length wc] := by show Value.agg #[p.vt, p.vr, p.vw] = _; rw [e1, e2, e3]
    rw [hv]
    have R4 := row3 R3 (.slice ta p.b.tb.length tc) (.slice ra p.b.ru.length rc) (.slice wa p.b.wt.length wc)
    have B4 := below3b B3 (Nat.le_refl _) (.slice ta p.b.tb.length tc) (.slice ra p.b.ru.length rc) (.slice wa p.b.wt.length wc)
    have ho4 := bko9 R3 (.slice ta p.b.tb.length tc) (.slice ra p.b.ru.length rc) (.slice wa p.b.wt.length wc) ho3
    clear ho pp e1 e2 e3
    cases hbd : BS.2.bad with
    | none =>
      rw [hbd] at hbq HPE
      have q2 := cellRow hbq 2
      simp at q2
      have QR := Lib.hid (row3 R4 (.slice ta p.b.tb.length tc) (.slice ra p.b.ru.length rc) (.slice wa p.b.wt.length wc))
      have QB := Lib.hid (below3b B4 (Nat.le_refl _) (.slice ta p.b.tb.length tc) (.slice ra p.b.ru.length rc) (.slice wa p.b.wt.length wc))
      have QO := Lib.hid (bko9 R4 (.slice ta p.b.tb.length tc) (.slice ra p.b.ru.length rc) (.slice wa p.b.wt.length wc) ho4)
      have HV := Lib.hid hv
      have HPB := Lib.hid ((heq hbd).trans HPE.out.2.2.symm)
      clear ho4 ho3 R3 R4 B3 B4 hbq heq hbd hv
      generalize p.b.tb.length = n1 at *
      generalize p.b.ru.length = n2 at *
      generalize p.b.wt.length = n3 at *
      go_wp2
      refine bodyPost_ret (results_cell_row3p rfl _ _ W0.heap.size _ _ (0, 0) _ rfl (by exact QR.out) Tryz.underlying27 rfl (by kernel_rfl)) rfl ?_
      refine ⟨QB.out, p, ?_, QO.out, HPB.out⟩
      rw [HPE.out.1, HPE.out.2.1, HV.out]
      rfl
    | some l =>
      have hln : lnO T BS.2 = l := by unfold lnO; rw [hbd]
      rw [hbd, hln] at hbq
      rw [hbd] at HPE
      have q2 := cellRow hbq 2
      have q1 := cellRow hbq 1
      simp at q2 q1
      have QR := Lib.hid (row3 R4 (.slice none 0 0) (.slice none 0 0) (.slice none 0 0))
      have QB := Lib.hid (below3b B4 (Nat.le_refl _) (.slice none 0 0) (.slice none 0 0) (.slice none 0 0))
      clear ho4 ho3 R3 R4 B3 B4 hbq heq hbd hv hln
      generalize p.b.tb.length = n1 at *
      generalize p.b.ru.length = n2 at *
      generalize p.b.wt.length = n3 at *
      go_wp2_with fail
      go_region
      all_goals
        go_wp2_with fail
        refine bodyPost_ret (results_cell_row3p rfl _ _ W0.heap.size _ _ (0, 0) _ rfl (by exact row_drew QR.out) Tryz.underlying27 rfl (by kernel_rfl)) rfl ?_
        refine ⟨below_dq QB.out, noBv, ?_, bko_no _ _, by rw [HPE.out.2.2]; rfl⟩
        rw [HPE.out.1, HPE.out.2.1]
        rfl
  · have HPE := Lib.hid (show paE s = spE s ∧ paN s = spN s ∧ paB s = noBk by unfold paE paN paB; rw [if_pos he, if_pos he, if_pos he]; exact ⟨rfl, rfl, rfl⟩)
    have hne : (((spE s : Nat) : Int) != 0) = true := by rw [bne_iff_ne]; omega
    clear he
    generalize spE s = ee at *
    generalize spN s = lnn at *
    generalize spL s = T at *
    go_enter Tryz.func6, Tryz.ntmps6
    go_wp2_with fail
    refine (HSP.out _ HI0.out.1).mono ?_
    rintro e w1 ⟨b1, ao, cap, rfl, -⟩
    have R1 := (b1.block _ (by rw [hsz0]; exact Nat.lt_succ_self _)).trans HR0.out
    have B1 := HB0.out.trans (b1.mono (by rw [hsz0]; omega))
    have QR := Lib.hid (row3 R1 (.slice none 0 0) (.slice none 0 0) (.slice none 0 0))
    have QB := Lib.hid (below3b B1 (Nat.le_refl _) (.slice none 0 0) (.slice none 0 0) (.slice none 0 0))
    have y0 : World.cell? _ ⟨W0.heap.size, 0, none⟩ = some (.slice none 0 0) := cellRow R1 0
    have f0 := freeRow R1 0
    have y1 : World.cell? _ ⟨W0.heap.size, 1, none⟩ = some (.slice none 0 0) := cellRow R1 1
    have f1 := freeRow R1 1
    have y2 : World.cell? _ ⟨W0.heap.size, 2, none⟩ = some (.slice none 0 0) := cellRow R1 2
    have f2 := freeRow R1 2
    clear b1 R1 B1
    go_wp2
    refine bodyPost_ret (results_cell_row3p rfl _ _ W0.heap.size _ _ (0, 0) _ rfl (by exact QR.out) Tryz.underlying27 rfl (by kernel_rfl)) rfl ?_
    refine ⟨QB.out, noBv, ?_, bko_no _ _, by rw [HPE.out.2.2]; rfl⟩
    rw [HPE.out.1, HPE.out.2.1]
    rfl
end PQ
end Go.Proofs.YtaeglmgpoboihaaGreatDoor
