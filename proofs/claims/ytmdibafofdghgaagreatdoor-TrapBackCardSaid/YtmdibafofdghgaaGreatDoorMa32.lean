/- Texts on the program and on the document, joined: TrpF, TrpG. -/
import Derived.Test.YtmdibafofdghgaaGreatDoorMa28
import Derived.Test.YtmdibafofdghgaaGreatDoorMa31
/- The document's Decode of traps, walked. -/
namespace Go.Proofs.YtmdibafofdghgaaGreatDoor
open Go.ChangeShapes Go.WideShapes Go.ChangeAt Go.RowKit K P1 B5
open D8 (Bd Un lst deU)
open T9 (Tr bU bI msg msgB ofU m3 deM)
set_option linter.unusedVariables false

def knows (known : List (List UInt8)) (c : List UInt8) : Bool := known.any fun k => k == c
def dtE (s : List UInt8) (known : List (List UInt8)) : Nat := if s.length ≤ 65535 then (match deM s with | some t => if knows known t.c then 0 else 91 | none => 90) else 90
def dtT (s : List UInt8) (known : List (List UInt8)) : Tr := if s.length ≤ 65535 then (match deM s with | some t => if knows known t.c then t else not9 | none => not9) else not9
/-- What Decode hands back. -/
def DtPost (s : List UInt8) (known : List (List UInt8)) (w : World) (e : Ending) (w' : World) : Prop :=
  ∃ (ao : Option Addr) (cap : Nat), e = .returned (.tuple #[.agg #[.string (bs (dtT s known).c), .bool (dtT s known).f, .int .i64 (dtT s known).r, .int .i64 (dtT s known).n, .string (bs (dtT s known).o), .slice ao (dtT s known).l.length cap], .int .i64 (dtE s known : Nat)]) ∧ RdB w' ao (dtT s known).l ∧ Below w.heap.size w w'
theorem dt_no {s : List UInt8} (h : s.length ≤ 65535 → deM s = none) (known : List (List UInt8)) : dtT s known = not9 ∧ dtE s known = 90 := by
  unfold dtT dtE
  by_cases hs : s.length ≤ 65535
  · rw [if_pos hs, if_pos hs, h hs]; exact ⟨rfl, rfl⟩
  · rw [if_neg hs, if_neg hs]; exact ⟨rfl, rfl⟩
theorem DtPost.no {s : List UInt8} {known : List (List UInt8)} (h : s.length ≤ 65535 → deM s = none) {w w' : World} (k : Below w.heap.size w w') : DtPost s known w (.returned (.tuple #[.agg #[.string (bs []), .bool false, .int .i64 0, .int .i64 0, .string (bs []), .slice none 0 0], .int .i64 90])) w' := by
  obtain ⟨h1, h2⟩ := dt_no h known
  refine ⟨none, 0, ?_, ?_, k⟩
  · rw [h1, h2]; rfl
  · rw [h1]; exact .inl rfl
theorem dt_yes {s : List UInt8} (hs : s.length ≤ 65535) {t : Tr} (h : deM s = some t) (known : List (List UInt8)) : dtT s known = (if knows known t.c then t else not9) ∧ dtE s known = if knows known t.c then 0 else 91 := by
  unfold dtT dtE
  rw [if_pos hs, if_pos hs, h]; exact ⟨rfl, rfl⟩
theorem m3_some {s : List UInt8} {p1 p2 p3 : Nat × List UInt8} (h1 : nxOk s = true) (h2 : nxR s = []) (h3 : nxT s = 48) (h4 : prt 0 (nxB s) = .ok [p1, p2, p3]) : m3 s = if p1.1 = 2 ∧ p2.1 = 4 ∧ nOk p1.2 = true ∧ nv p1.2 = 1 then some (p2.2, p3) else none := by
  unfold m3
  rw [if_pos ⟨h1, h2, h3⟩, h4]
theorem m3_not3 {s : List UInt8} (h : ¬ (nxOk s = true ∧ nxR s = [] ∧ nxT s = 48 ∧ ∃ ps', prt 0 (nxB s) = .ok ps' ∧ ps'.length = 3)) : m3 s = none := by
  unfold m3
  split
  · next hc =>
    split
    · next p1 p2 p3 hp => exact absurd ⟨hc.1, hc.2.1, hc.2.2, _, hp, rfl⟩ h
    · rfl
  · rfl
theorem deM_go {s : List UInt8} {c : List UInt8} {p : Nat × List UInt8} (h : m3 s = some (c, p)) : deM s = match deU (p.1 : Nat) p.2 with | none => none | some u => ofU c u := by
  unfold deM; rw [h]; rfl
theorem three_of {ps : List (Nat × List UInt8)} (h : ps.length = 3) : ∃ a b c, ps = [a, b, c] := by
  match ps, h with
  | [a, b, c], _ => exact ⟨a, b, c, rfl⟩
theorem trap_block (w : World) : ∃ w2, w.alloc (.cells #[.string { data := #[] }, .bool false, .int .i64 0, .int .i64 0, .string { data := #[] }, .slice none 0 0] 27) = w2 ∧ Tq w2 w.heap.size not9 none 0 ∧ Below w.heap.size w w2 :=
  ⟨_, rfl, Tq.new w not9 none 0, alloc_in w _⟩
set_option maxRecDepth 100000 in
set_option maxHeartbeats 8000000 in
theorem qdecode9_early (s : List UInt8) (hs : s.length ≤ 140737488351232) (known : List (List UInt8)) (ko : Option Addr) (kc : Nat) (w : World)
    (hearly : ¬ s.length ≤ 65535 ∨ m3 s = none ∨ ∃ c p, m3 s = some (c, p) ∧ deU (p.1 : Nat) p.2 = none) :
    Calls Tryz.prog 11 #[.string (bs s), .slice ko known.length kc] w (DtPost s known w) := by
  have HNo := Lib.hid (fun (w' : World) (k : Below w.heap.size w w') => DtPost.no (s := s) (known := known) (fun h => by
    rcases hearly with h1 | h1 | ⟨c, p, h1, h2⟩
    · exact absurd h h1
    · exact T9.deM_no h1
    · rw [deM_go h1, h2]) k)
  obtain ⟨w2, hw2, htq, bw⟩ := trap_block w
  have HW := Lib.hid hw2
  have HP := Lib.hid (fun w1 => qpartsof_walk s hs w1)
  unfold PsPost at HP
  clear hw2
  by_cases h65 : s.length ≤ 65535
  rotate_left
  · have h1 : (65535 : Int) < ((s.length : Nat) : Int) := by omega
    clear hearly h65
    go_enter Tryz.func11, Tryz.ntmps11
    go_wp2_with fail
    rw [HW.out]
    refine (HP.out _).mono ?_
    rintro e w3 ⟨v, ps, ok, rfl, ho, d3, _⟩
    obtain ⟨ao, cap, rfl, _⟩ := ho.form
    have b3 := bw.trans (d3.mono bw.size)
    have ht3 := htq.below d3
    clear d3 ho
    have PX := ht3.set not9 none 0
    have bb := below_set6 b3 (b := w.heap.size) (Nat.le_refl _) (.string (bs [])) (.bool false) (.int .i64 0) (.int .i64 0) (.string (bs [])) (.slice none 0 0)
    obtain ⟨c0, c1, c2, c3, c4, c5⟩ := ht3.cells
    have f0 := ht3.free 0
    have f1 := ht3.free 1
    have f2 := ht3.free 2
    have f3 := ht3.free 3
    have f4 := ht3.free 4
    have f5 := ht3.free 5
    clear ht3 b3
    go_wp2
    refine bodyPost_ret (results_cell_row2 rfl _ _ w.heap.size _ _ _ _ rfl PX Tryz.underlying27 rfl (by kernel_rfl)) rfl ?_
    exact HNo.out _ bb
  have h1 : ((s.length : Nat) : Int) ≤ 65535 := by omega
  have HE := Lib.hid (hearly.resolve_left (fun h => h h65))
  have HN := Lib.hid (fun (p1 : Nat × List UInt8) (h : p1.2.length ≤ 140737488351232) w1 => qbnumber_walk p1.2 h w1)
  have HD := Lib.hid (fun (p3 : Nat × List UInt8) (h : p3.2.length ≤ 140737488351232) w1 => qdecode8_walk (p3.1 : Nat) p3.2 h w1)
  unfold DuPost at HD
  clear hearly
  go_enter Tryz.func11, Tryz.ntmps11
  go_wp2_with fail
  rw [HW.out]
  refine (HP.out _).mono ?_
  rintro e w3 ⟨v, ps, ok, rfl, ho, d3, hok⟩
  obtain ⟨ao, cap, rfl, hf⟩ := ho.form
  have b3 := bw.trans (d3.mono bw.size)
  have ht3 := htq.below d3
  rcases hok with ⟨rfl, n1, n2, n3, n4, n5⟩ | ⟨rfl, _⟩
  rotate_left
  · clear d3 ho hf
    have PX := ht3.set not9 none 0
    have bb := below_set6 b3 (b := w.heap.size) (Nat.le_refl _) (.string (bs [])) (.bool false) (.int .i64 0) (.int .i64 0) (.string (bs [])) (.slice none 0 0)
    obtain ⟨c0, c1, c2, c3, c4, c5⟩ := ht3.cells
    have f0 := ht3.free 0
    have f1 := ht3.free 1
    have f2 := ht3.free 2
    have f3 := ht3.free 3
    have f4 := ht3.free 4
    have f5 := ht3.free 5
    clear ht3 b3
    go_wp2
    refine bodyPost_ret (results_cell_row2 rfl _ _ w.heap.size _ _ _ _ rfl PX Tryz.underlying27 rfl (by kernel_rfl)) rfl ?_
    exact HNo.out _ bb
  obtain ⟨p1, p2, p3, rfl⟩ := three_of n5
  have HM := Lib.hid (m3_some n1 n2 n3 n4)
  have hm := prt_mem _ _ (nxB s) _ (Nat.le_refl _) n4
  have hbl := (nx_of n1).2.2.2.2
  have m1 := (hm p1 (by simp)).2
  have m2 := (hm p2 (by simp)).2
  have m3' := (hm p3 (by simp)).2
  have HN1 := Lib.hid (fun w1 => HN.out p1 (by omega) w1)
  have HD3 := Lib.hid (fun w1 => HD.out p3 (by omega) w1)
  clear hm hbl m1 m2 m3' n1 n2 n3 n4 n5 HN HD
  rcases hf with h0 | ⟨g, rfl, hg1, hg2, hg⟩
  · simp at h0
  obtain ⟨g0, g1⟩ := hg 0 (by simp)
  obtain ⟨g2, g3⟩ := hg 1 (by simp)
  obtain ⟨g4, g5⟩ := hg 2 (by simp)
  simp only [List.getD_cons_zero, List.getD_cons_succ, Nat.zero_mul, Nat.one_mul, Nat.reduceMul, Nat.reduceAdd, Nat.zero_add] at g0 g1 g2 g3 g4 g5
  obtain ⟨a1, l1⟩ := p1
  obtain ⟨a2, l2⟩ := p2
  obtain ⟨a3, l3⟩ := p3
  simp only [] at *
  clear hg ho d3
  by_cases t1 : a1 = 2
  rotate_left
  · have t1' : (((a1 : Nat) : Int) != 2) = true := by rw [bne_iff_ne]; omega
    clear t1
    have PX := ht3.set not9 none 0
    have bb := below_set6 b3 (b := w.heap.size) (Nat.le_refl _) (.string (bs [])) (.bool false) (.int .i64 0) (.int .i64 0) (.string (bs [])) (.slice none 0 0)
    obtain ⟨c0, c1, c2, c3, c4, c5⟩ := ht3.cells
    have f0 := ht3.free 0
    have f1 := ht3.free 1
    have f2 := ht3.free 2
    have f3 := ht3.free 3
    have f4 := ht3.free 4
    have f5 := ht3.free 5
    clear ht3 b3
    go_wp2
    refine bodyPost_ret (results_cell_row2 rfl _ _ w.heap.size _ _ _ _ rfl PX Tryz.underlying27 rfl (by kernel_rfl)) rfl ?_
    exact HNo.out _ bb
  subst t1
  by_cases t2 : a2 = 4
  rotate_left
  · have t2' : (((a2 : Nat) : Int) != 4) = true := by rw [bne_iff_ne]; omega
    clear t2
    have PX := ht3.set not9 none 0
    have bb := below_set6 b3 (b := w.heap.size) (Nat.le_refl _) (.string (bs [])) (.bool false) (.int .i64 0) (.int .i64 0) (.string (bs [])) (.slice none 0 0)
    obtain ⟨c0, c1, c2, c3, c4, c5⟩ := ht3.cells
    have f0 := ht3.free 0
    have f1 := ht3.free 1
    have f2 := ht3.free 2
    have f3 := ht3.free 3
    have f4 := ht3.free 4
    have f5 := ht3.free 5
    clear ht3 b3
    go_wp2
    refine bodyPost_ret (results_cell_row2 rfl _ _ w.heap.size _ _ _ _ rfl PX Tryz.underlying27 rfl (by kernel_rfl)) rfl ?_
    exact HNo.out _ bb
  subst t2
  have HNW := Lib.hid (show (nuE l1 = 0 ∧ nuV l1 = 1) ∨ (((nuE l1 : Nat) : Int) != 0) = true ∨ (nuE l1 = 0 ∧ (nuV l1 != 1) = true) from by
    cases k1 : nOk l1
    · exact .inr (.inl (by rw [(nu_no k1).2]; rfl))
    · by_cases k2 : nuV l1 = 1
      · exact .inl ⟨(nu_yes k1).2, k2⟩
      · exact .inr (.inr ⟨(nu_yes k1).2, bne_iff_ne.2 k2⟩))
  have HOK := Lib.hid (show nuE l1 = 0 → nuV l1 = 1 → duE (a3 : Nat) l3 = 80 from fun e1 e2 => by
    have hk : nOk l1 = true := by
      cases k1 : nOk l1
      · rw [(nu_no k1).2] at e1; cases e1
      · rfl
    have hv : nv l1 = 1 := by rw [← (nu_yes hk).1]; exact e2
    have hM := HM.out
    rw [if_pos ⟨rfl, rfl, hk, hv⟩] at hM
    rcases HE.out with h | ⟨c, p, h, hd⟩
    · rw [hM] at h; cases h
    · rw [hM] at h
      injection h with h
      simp only [Prod.mk.injEq] at h
      obtain ⟨_, rfl⟩ := h
      exact (du_none hd).2)
  generalize nuE l1 = E1 at *
  generalize nuV l1 = V1 at *
  generalize duU (a3 : Nat) l3 = u at *
  generalize duE (a3 : Nat) l3 = E3 at *
  go_wp2_with fail
  refine (HN1.out _).mono ?_
  rintro e w4 ⟨rfl, rfl⟩
  go_wp2_with fail
  refine (HD3.out _).mono ?_
  rintro e w5 ⟨bo, cb, rfl, hr5, d5⟩
  have a5 := alloc_in w5 (.cells #[.int .i64 u.t, .int .i64 u.r, .int .i64 u.a, .int .i64 u.i, .slice bo u.l.length cb] 60)
  have b5 := (b3.trans (d5.mono b3.size)).trans (a5.mono (b3.trans (d5.mono b3.size)).size)
  have ht5 := (ht3.below d5).below a5
  clear hr5 d5 a5 b3 ht3 g0 g1 g2 g3 g4 g5
  have hways : (((E1 : Nat) : Int) != 0) = true ∨ (E1 = 0 ∧ (V1 != 1) = true) ∨ (E1 = 0 ∧ V1 = 1 ∧ E3 = 80) := by
    rcases HNW.out with ⟨h1, h2⟩ | h | h
    · exact .inr (.inr ⟨h1, h2, HOK.out h1 h2⟩)
    · exact .inl h
    · exact .inr (.inl h)
  clear HNW HOK HE HM
  rcases hways with h2 | ⟨rfl, h2⟩ | ⟨rfl, rfl, rfl⟩
  all_goals
    have PX := ht5.set not9 none 0
    have bb := below_set6 b5 (b := w.heap.size) (Nat.le_refl _) (.string (bs [])) (.bool false) (.int .i64 0) (.int .i64 0) (.string (bs [])) (.slice none 0 0)
    obtain ⟨c0, c1, c2, c3, c4, c5⟩ := ht5.cells
    have f0 := ht5.free 0
    have f1 := ht5.free 1
    have f2 := ht5.free 2
    have f3 := ht5.free 3
    have f4 := ht5.free 4
    have f5 := ht5.free 5
    clear ht5 b5
    go_wp2
    refine bodyPost_ret (results_cell_row2 rfl _ _ w.heap.size _ _ _ _ rfl PX Tryz.underlying27 rfl (by kernel_rfl)) rfl ?_
    exact HNo.out _ bb
end Go.Proofs.YtmdibafofdghgaaGreatDoor
/- The document's Decode of traps, where there is a unit, walked. -/
namespace Go.Proofs.YtmdibafofdghgaaGreatDoor
open Go.ChangeShapes Go.WideShapes Go.ChangeAt Go.RowKit K P1 B5
open D8 (Bd Un lst deU)
open T9 (Tr bU bI msg msgB ofU m3 deM)
set_option linter.unusedVariables false

theorem m3_inv {s : List UInt8} {c : List UInt8} {p : Nat × List UInt8} (h : m3 s = some (c, p)) : nxOk s = true ∧ nxR s = [] ∧ nxT s = 48 ∧ ∃ l1, prt 0 (nxB s) = .ok [(2, l1), (4, c), p] ∧ nOk l1 = true ∧ nv l1 = 1 := by
  unfold m3 at h
  split at h
  · next hc =>
    split at h
    · next p1 p2 p3 hp =>
      split at h
      · next hd =>
        injection h with h
        simp only [Prod.mk.injEq] at h
        obtain ⟨rfl, rfl⟩ := h
        obtain ⟨a1, l1⟩ := p1
        obtain ⟨a2, l2⟩ := p2
        obtain ⟨d1, d2, d3, d4⟩ := hd
        simp only [] at d1 d2 d3 d4
        subst d1 d2
        exact ⟨hc.1, hc.2.1, hc.2.2, l1, hp, d3, d4⟩
      · cases h
    · cases h
  · cases h
theorem knows_take {known : List (List UInt8)} {c : List UInt8} {i : Nat} (hi : i < known.length) : knows (known.take (i + 1)) c = (knows (known.take i) c || (known.getD i [] == c)) := by
  unfold knows
  rw [List.take_succ_eq_append_getElem hi, List.any_append, List.getD_eq_getElem?_getD, List.getElem?_eq_getElem hi]
  simp
theorem knows_in {known : List (List UInt8)} {c : List UInt8} {i : Nat} (hi : i < known.length) (h : known.getD i [] = c) : knows known c = true := by
  unfold knows
  rw [List.any_eq_true]
  rw [List.getD_eq_getElem?_getD, List.getElem?_eq_getElem hi] at h
  exact ⟨_, List.getElem_mem hi, by rw [← h]; simp⟩
def KnRel (t : Tr) (known : List (List UInt8)) (ko : Option Addr) (ao : Option Addr) (cap bt : Nat) (w : World) (g : Nat) (v : Value) (wr : World) : Prop :=
  ∃ i : Nat, i + g = known.length ∧ v = .int .i64 (i : Nat) ∧ knows (known.take i) t.c = false ∧ Tq wr bt t ao cap ∧ Tq wr w.heap.size not9 none 0 ∧ RdB wr ao t.l ∧ RdS wr ko known ∧ Below w.heap.size w wr
set_option maxRecDepth 100000 in
set_option maxHeartbeats 8000000 in
theorem qdecode9_go (s : List UInt8) (hs : s.length ≤ 65535) (known : List (List UInt8)) (ko : Option Addr) (kc : Nat) (hkl : known.length ≤ 140737488351232) (w : World) (hko : RdS w ko known)
    (c : List UInt8) (p : Nat × List UInt8) (hm : m3 s = some (c, p)) (u : Un) (hd : deU (p.1 : Nat) p.2 = some u) :
    Calls Tryz.prog 11 #[.string (bs s), .slice ko known.length kc] w (DtPost s known w) := by
  obtain ⟨n1, n2, n3, l1, n4, n5, n6⟩ := m3_inv hm
  have hdm := deM_go hm
  rw [hd] at hdm
  have hdm' : deM s = ofU c u := hdm
  have HNo := Lib.hid (fun (h : ofU c u = none) (w' : World) (k : Below w.heap.size w w') => DtPost.no (s := s) (known := known) (fun _ => hdm'.trans h) k)
  have HYes := Lib.hid (fun (t : Tr) (h : ofU c u = some t) => dt_yes hs (hdm'.trans h) known)
  obtain ⟨w2, hw2, htq, bw⟩ := trap_block w
  have HW := Lib.hid hw2
  have HP := Lib.hid (fun w1 => qpartsof_walk s (by omega) w1)
  unfold PsPost at HP
  have h1 : ((s.length : Nat) : Int) ≤ 65535 := by omega
  have hmem := prt_mem _ _ (nxB s) _ (Nat.le_refl _) n4
  have hbl := (nx_of n1).2.2.2.2
  have m1 := (hmem (2, l1) (by simp)).2
  have m2 := (hmem (4, c) (by simp)).2
  have m3' := (hmem p (by simp)).2
  have hN1 := fun w1 => qbnumber_walk l1 (show l1.length ≤ _ by simp only [] at m1; omega) w1
  have hv := (nu_yes n5).1
  rw [(nu_yes n5).2, (nu_yes n5).1, n6] at hN1
  have HN1 := Lib.hid hN1
  have hD := fun w1 => qdecode8_walkc (p.1 : Nat) p.2 (by omega) w1
  unfold DuPc at hD
  rw [(du_some hd).1, (du_some hd).2] at hD
  have HD := Lib.hid hD
  have hul := ((D8.Un.ok_iff u).1 (D8.unit_told hd).1).2.2.2.2.1
  obtain ⟨_, _, _, _, _, -, -, -, hL, -⟩ := D8.deU_inv hd
  have hlim := (deL_lim _ _ hL).lim
  have HO := Lib.hid (fun bo cb (hc : u.l.length ≤ cb) w1 (h : RdB w1 bo u.l) => qof9_walk c (by simp only [] at m2; omega) u bo cb (by omega) hc hlim w1 h)
  unfold OfPost at HO
  have HPS := Lib.hid (show ∀ ps, prt 0 (nxB s) = .ok ps → ps = [(2, l1), (4, c), p] from fun ps h => by rw [n4] at h; injection h with h; exact h.symm)
  have HOK := Lib.hid (show nxOk s = true ∧ nxR s = [] ∧ nxT s = 48 ∧ ∃ ps', prt 0 (nxB s) = .ok ps' ∧ ps'.length = 3 from ⟨n1, n2, n3, _, n4, rfl⟩)
  obtain ⟨a3, l3⟩ := p
  simp only [] at *
  clear hw2 n1 n2 n3 n4 n5 n6 hdm hdm' hm hd hN1 hD hmem hbl m1 m2 m3' hv hul hL hlim hs
  go_enter Tryz.func11, Tryz.ntmps11
  go_wp2_with fail
  rw [HW.out]
  refine (HP.out _).mono ?_
  rintro e w3 ⟨v, ps, ok, rfl, ho, d3, hok⟩
  obtain ⟨ao, cap, rfl, hf⟩ := ho.form
  have b3 := bw.trans (d3.mono bw.size)
  have ht3 := htq.below d3
  rcases hok with ⟨rfl, -, -, -, n4, -⟩ | ⟨-, hno⟩
  rotate_left
  · exact absurd HOK.out hno
  have hps := HPS.out ps n4
  subst hps
  clear n4 HOK HPS
  rcases hf with h0 | ⟨g, rfl, hg1, hg2, hg⟩
  · simp at h0
  obtain ⟨g0, g1⟩ := hg 0 (by simp)
  obtain ⟨g2, g3⟩ := hg 1 (by simp)
  obtain ⟨g4, g5⟩ := hg 2 (by simp)
  simp only [List.getD_cons_zero, List.getD_cons_succ, Nat.zero_mul, Nat.one_mul, Nat.reduceMul, Nat.reduceAdd, Nat.zero_add] at g0 g1 g2 g3 g4 g5
  clear hg ho d3
  go_wp2_with fail
  refine (HN1.out _).mono ?_
  rintro e w4 ⟨rfl, rfl⟩
  go_wp2_with fail
  refine (HD.out _).mono ?_
  rintro e w5 ⟨bo, cb, rfl, hr5, d5, hcap, -⟩
  have a5 := alloc_in w5 (.cells #[.int .i64 u.t, .int .i64 u.r, .int .i64 u.a, .int .i64 u.i, .slice bo u.l.length cb] 60)
  have hu5 := Uq.new 60 w5 u bo cb
  have b5 := (b3.trans (d5.mono b3.size)).trans (a5.mono (b3.trans (d5.mono b3.size)).size)
  have ht5 := (ht3.below d5).below a5
  have hr5' := hr5.below a5
  have g3' := cell_below (cell_below g3 d5) a5
  have hcc := Lib.hid hcap
  have a5s := hu5
  obtain ⟨z0, z1, z2, z3, z4⟩ := hu5.cells
  clear hr5 d5 a5 b3 ht3 g0 g1 g2 g3 g4 g5 hcap
  go_wp2_with fail
  have hs6 := a5s
  generalize w5.alloc (.cells #[.int .i64 u.t, .int .i64 u.r, .int .i64 u.a, .int .i64 u.i, .slice bo u.l.length cb] 60) = w6 at *
  have n0 := World.new_ne w6 _ g3'
  have n1 := World.new_ne w6 _ z0
  have n2 := World.new_ne w6 _ z1
  have n3 := World.new_ne w6 _ z2
  have n4 := World.new_ne w6 _ z3
  have n5 := World.new_ne w6 _ z4
  have aZ := alloc_in w6 (.cells #[.string { data := #[] }, .bool false, .int .i64 0, .int .i64 0, .string { data := #[] }, .slice none 0 0] 27)
  have hrZ := hr5'.below aZ
  have hrZd : RdB (w6.alloc (.cells #[.string { data := #[] }, .bool false, .int .i64 0, .int .i64 0, .string { data := #[] }, .slice none 0 0] 27)).drew bo u.l := hrZ
  have hr5d : RdB w6.drew bo u.l := hr5'
  have hks : RdS w6 ko known := hko.below b5
  have y9 := cell_below g3' aZ
  have y0 := cell_below z0 aZ
  have y1 := cell_below z1 aZ
  have y2 := cell_below z2 aZ
  have y3 := cell_below z3 aZ
  have y4 := cell_below z4 aZ
  go_cut [7, 12] (fun v7 v12 wx => ∃ (t : Tr) (ao : Option Addr) (ct : Nat) (ok : Bool) (q : Nat), v7 = .bool ok ∧ v12 = .pointer (some ⟨q, 0, none⟩) ∧ Tq wx q t ao ct ∧ RdB wx ao t.l ∧ (∀ a, ao = some a → w6.heap.size ≤ a.block) ∧ (ok = true → ofU c u = some t) ∧ (ok = false → ofU c u = none) ∧ Below w6.heap.size w6 wx)
  case first =>
    go_region_with
      (first
        | (go_at_call 30; (with_reducible refine (HO.out bo cb hcc.out _ hrZd).mono ?_); rintro e x1 ⟨t, ao, ct, ok, rfl, hrt, j1, hnw, hy, hn⟩; have k1 : Below (w6.alloc (.cells #[.string { data := #[] }, .bool false, .int .i64 0, .int .i64 0, .string { data := #[] }, .slice none 0 0] 27)).heap.size (w6.alloc (.cells #[.string { data := #[] }, .bool false, .int .i64 0, .int .i64 0, .string { data := #[] }, .slice none 0 0] 27)) x1 := ⟨j1.os, j1.tape, j1.output, j1.size, j1.block⟩; have v1 := (Tq.new w6 not9 none 0).below k1; obtain ⟨c0, c1, c2, c3, c4, c5⟩ := v1.cells; have f0 := v1.free 0; have f1 := v1.free 1; have f2 := v1.free 2; have f3 := v1.free 3; have f4 := v1.free 4; have f5 := v1.free 5; have kk := aZ.trans (k1.mono aZ.size))
        | (go_at_call 30; (with_reducible refine (HO.out bo cb hcc.out _ hr5d).mono ?_); rintro e x1 ⟨t, ao, ct, ok, rfl, hrt, j1, hnw, hy, hn⟩; have kk : Below w6.heap.size w6 x1 := ⟨j1.os, j1.tape, j1.output, j1.size, j1.block⟩))
    all_goals
      go_wp2_with fail
      go_meet
    all_goals
      first
        | (skip
           have hw1 : ∀ a, ao = some a → w6.heap.size + 1 ≤ a.block := fun a ha => by
             have h := hnw a ha
             have e : (w6.alloc (.cells #[.string { data := #[] }, .bool false, .int .i64 0, .int .i64 0, .string { data := #[] }, .slice none 0 0] 27)).drew.heap.size = w6.heap.size + 1 := by show (w6.alloc (.cells #[.string { data := #[] }, .bool false, .int .i64 0, .int .i64 0, .string { data := #[] }, .slice none 0 0] 27)).heap.size = _; simp
             rw [e] at h; exact h
           have hne : ∀ a, ao = some a → w6.heap.size ≠ a.block := fun a ha => by have := hw1 a ha; omega
           have hT1 := v1.set t ao ct
           have bt := below_set6 kk (b := w6.heap.size) (Nat.le_refl _) (.string (bs t.c)) (.bool t.f) (.int .i64 t.r) (.int .i64 t.n) (.string (bs t.o)) (.slice ao t.l.length ct)
           have hrt1 := (((((hrt.far hne 0 (.string (bs t.c))).far hne 1 (.bool t.f)).far hne 2 (.int .i64 t.r)).far hne 3 (.int .i64 t.n)).far hne 4 (.string (bs t.o))).far hne 5 (.slice ao t.l.length ct)
           exact ⟨t, ao, ct, ok, w6.heap.size, rfl, rfl, hT1, hrt1, fun a ha => Nat.le_of_succ_le (hw1 a ha), hy, hn, ⟨bt.os, bt.tape, bt.output, bt.size, bt.block⟩⟩)
        | (skip
           have kt := alloc_in x1 (.cells #[.string (bs t.c), .bool t.f, .int .i64 t.r, .int .i64 t.n, .string (bs t.o), .slice ao t.l.length ct] 27)
           have hw1 : ∀ a, ao = some a → w6.heap.size ≤ a.block := hnw
           have bt := kk.trans (kt.mono kk.size)
           have hrt1 := hrt.below kt
           have hT1 := Tq.new x1 t ao ct
           exact ⟨t, ao, ct, ok, x1.heap.size, rfl, rfl, hT1, hrt1, hw1, hy, hn, ⟨bt.os, bt.tape, bt.output, bt.size, bt.block⟩⟩)
  case rest =>
    obtain ⟨t, ao, ct, ok, q, rfl, rfl, hTq, hrt, hnw, hy, hn, bx⟩ := hcut
    obtain ⟨w7, rfl⟩ : ∃ x : World, x = wc := ⟨_, rfl⟩
    have b7 := b5.trans (bx.mono b5.size)
    have hq7 := ht5.below bx
    have hk7 := hks.below bx
    have hlt6 := lt_of_block ht5
    clear aZ hrZ hrZd hr5d hr5' hks g3' z0 z1 z2 z3 z4 y9 y0 y1 y2 y3 y4 n0 n1 n2 n3 n4 n5 hu5 ht5 b5 hs6 HO hcc
    cases ok
    · have HE2 := Lib.hid (hn rfl)
      clear hn hy hTq hrt hnw bx hk7
      have PX := hq7.set not9 none 0
      have bb := below_set6 b7 (b := w.heap.size) (Nat.le_refl _) (.string (bs [])) (.bool false) (.int .i64 0) (.int .i64 0) (.string (bs [])) (.slice none 0 0)
      obtain ⟨c0, c1, c2, c3, c4, c5⟩ := hq7.cells
      have f0 := hq7.free 0
      have f1 := hq7.free 1
      have f2 := hq7.free 2
      have f3 := hq7.free 3
      have f4 := hq7.free 4
      have f5 := hq7.free 5
      clear hq7 b7
      go_wp2
      refine bodyPost_ret (results_cell_row2 rfl _ _ w.heap.size _ _ _ _ rfl PX Tryz.underlying27 rfl (by kernel_rfl)) rfl ?_
      exact HNo.out HE2.out _ bb
    have HY := Lib.hid (HYes.out t (hy rfl))
    have HNE := Lib.hid (show ∀ a, ao = some a → w.heap.size ≠ a.block from fun a ha => by have := hnw a ha; omega)
    have HST := Lib.hid (show KnRel t known ko ao ct q w known.length (.int .i64 (0 : Nat)) w7 from ⟨0, by omega, rfl, rfl, hTq, hq7, hrt, hk7, b7⟩)
    clear hn hy hTq hrt bx hk7 hq7 b7 HNo HYes
    go_wp2_with fail
    go_loopg [13] known.length (fun g v wr => KnRel t known ko ao ct q w g v wr)
    case atStart => exact HST.out
    case round =>
      clear HST
      obtain ⟨i, hi, rfl, hkn, hT, hq, hrt, hks, hb⟩ := hrel
      cases gk with
      | zero =>
        obtain rfl : i = known.length := by omega
        rw [List.take_length] at hkn
        have HK := Lib.hid (show dtT s known = not9 ∧ dtE s known = 91 by
          have h := HY.out
          rw [hkn] at h
          exact h)
        clear hkn HY hT hrt hks
        have PX := hq.set not9 none 0
        have bb := below_set6 hb (b := w.heap.size) (Nat.le_refl _) (.string (bs [])) (.bool false) (.int .i64 0) (.int .i64 0) (.string (bs [])) (.slice none 0 0)
        obtain ⟨c0, c1, c2, c3, c4, c5⟩ := hq.cells
        have f0 := hq.free 0
        have f1 := hq.free 1
        have f2 := hq.free 2
        have f3 := hq.free 3
        have f4 := hq.free 4
        have f5 := hq.free 5
        clear hq hb
        go_wp2
        refine bodyPost_ret (results_cell_row2 rfl _ _ w.heap.size _ _ _ _ rfl PX Tryz.underlying27 rfl (by kernel_rfl)) rfl ?_
        exact ⟨none, 0, by rw [HK.out.1, HK.out.2]; rfl, by rw [HK.out.1]; exact .inl rfl, bb⟩
      | succ g =>
        have hlt : i < known.length := by omega
        have HTK := Lib.hid (knows_take (c := t.c) hlt)
        have HIN := Lib.hid (fun h => knows_in (known := known) (c := t.c) hlt h)
        obtain ⟨x, hx⟩ : ∃ x, known.getD i [] = x := ⟨_, rfl⟩
        obtain ⟨kb, koff, rfl, hkb, hkc⟩ := hks.at hlt hx
        rw [hx] at HTK HIN
        obtain ⟨s0, s1, s2, s3, s4, s5⟩ := hT.cells
        have HKN := Lib.hid hkn
        clear hx hkn
        by_cases hxc : x = t.c
        · subst hxc
          have HK := Lib.hid (show dtT s known = t ∧ dtE s known = 0 by
            have h := HY.out
            rw [HIN.out rfl] at h
            exact h)
          clear HTK HIN HKN HY
          go_wp2_with fail
          go_quiet (fail)
          have hT9 : Tq (wr.drewN nq) q t ao ct := hT
          have hq9 : Tq (wr.drewN nq) w.heap.size not9 none 0 := hq
          have hr9 : RdB (wr.drewN nq) ao t.l := hrt
          have b9 : Below w.heap.size w (wr.drewN nq) := ⟨hb.os, hb.tape, hb.output, hb.size, hb.block⟩
          clear hT hq hrt hb s0 s1 s2 s3 s4 s5 hks hkc
          generalize wr.drewN nq = w9 at *
          obtain ⟨s0, s1, s2, s3, s4, s5⟩ := hT9.cells
          obtain ⟨c0, c1, c2, c3, c4, c5⟩ := hq9.cells
          have f0 := hq9.free 0
          have f1 := hq9.free 1
          have f2 := hq9.free 2
          have f3 := hq9.free 3
          have f4 := hq9.free 4
          have f5 := hq9.free 5
          have PX := hq9.set t ao ct
          have bb := below_set6 b9 (b := w.heap.size) (Nat.le_refl _) (.string (bs t.c)) (.bool t.f) (.int .i64 t.r) (.int .i64 t.n) (.string (bs t.o)) (.slice ao t.l.length ct)
          have HR9 := Lib.hid ((((((hr9.far HNE.out 0 (.string (bs t.c))).far HNE.out 1 (.bool t.f)).far HNE.out 2 (.int .i64 t.r)).far HNE.out 3 (.int .i64 t.n)).far HNE.out 4 (.string (bs t.o))).far HNE.out 5 (.slice ao t.l.length ct))
          clear hT9 hq9 hr9 b9
          go_wp2
          refine bodyPost_ret (results_cell_row2 rfl _ _ w.heap.size _ _ _ _ rfl PX Tryz.underlying27 rfl (by kernel_rfl)) rfl ?_
          exact ⟨ao, ct, by rw [HK.out.1, HK.out.2]; rfl, by rw [HK.out.1]; exact HR9.out, bb⟩
        · have e1 : (x == t.c) = false := beq_eq_false_iff_ne.2 hxc
          go_wp2_with fail
          go_quiet (fail)
          go_wp2
          go_roundg g
          case measure => omega
          case rel => exact ⟨i + 1, by omega, by simp, by rw [HTK.out, HKN.out, e1]; rfl, hT, hq, hrt, hks, ⟨hb.os, hb.tape, hb.output, hb.size, hb.block⟩⟩
theorem qdecode9_walk (s : List UInt8) (hs : s.length ≤ 140737488351232) (known : List (List UInt8)) (ko : Option Addr) (kc : Nat) (hkl : known.length ≤ 140737488351232) (w : World) (hko : RdS w ko known) :
    Calls Tryz.prog 11 #[.string (bs s), .slice ko known.length kc] w (DtPost s known w) := by
  by_cases h65 : s.length ≤ 65535
  · cases hm : m3 s with
    | none => exact qdecode9_early s hs known ko kc w (.inr (.inl hm))
    | some m =>
      obtain ⟨c, p⟩ := m
      cases hd : deU (p.1 : Nat) p.2 with
      | none => exact qdecode9_early s hs known ko kc w (.inr (.inr ⟨c, p, hm, hd⟩))
      | some u => exact qdecode9_go s h65 known ko kc hkl w hko c p hm u hd
  · exact qdecode9_early s hs known ko kc w (.inl h65)
end Go.Proofs.YtmdibafofdghgaaGreatDoor
