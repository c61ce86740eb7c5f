/- Texts on the program and on the document, joined: PduL, ValJ, BerG. -/
import Derived.Test.YtdgnhcbhbpffmaaGreatDoorMa24
import Derived.Test.YtdgnhcbhbpffmaaGreatDoorMa20
import Derived.Test.YtdgnhcbhbpffmaaGreatDoorMa17
import Derived.Test.YtdgnhcbhbpffmaaGreatDoorMa18
import Derived.Test.YtdgnhcbhbpffmaaGreatDoorMa19
import Derived.Test.YtdgnhcbhbpffmaaGreatDoorMa07
import Derived.Test.YtdgnhcbhbpffmaaGreatDoorMa21
import Derived.Test.YtdgnhcbhbpffmaaGreatDoorMa03
/- The document's Decode of units, walked. -/
namespace Go.Proofs.YtdgnhcbhbpffmaaGreatDoor
open Go.ChangeShapes Go.WideShapes Go.ChangeAt Go.RowKit K P1 B5
open D8 (Bd Un lst deB deL deU)
set_option linter.unusedVariables false

/-- No unit. -/
def nou : Un := ⟨0, 0, 0, 0, []⟩
def duU (t : Int) (b : List UInt8) : Un := match deU t b with | some u => u | none => nou
def duE (t : Int) (b : List UInt8) : Nat := match deU t b with | some _ => 0 | none => 80
theorem du_some {t : Int} {b : List UInt8} {u : Un} (h : deU t b = some u) : duU t b = u ∧ duE t b = 0 := by unfold duU duE; rw [h]; exact ⟨rfl, rfl⟩
theorem du_none {t : Int} {b : List UInt8} (h : deU t b = none) : duU t b = nou ∧ duE t b = 80 := by unfold duU duE; rw [h]; exact ⟨rfl, rfl⟩
/-- What Decode hands back. -/
def DuPost (t : Int) (b : List UInt8) (w : World) (e : Ending) (w' : World) : Prop :=
  ∃ ao cap, e = .returned (.tuple #[.agg #[.int .i64 (duU t b).t, .int .i64 (duU t b).r, .int .i64 (duU t b).a, .int .i64 (duU t b).i, .slice ao (duU t b).l.length cap], .int .i64 (duE t b : Nat)]) ∧ RdB w' ao (duU t b).l ∧ Below w.heap.size w w'
theorem DuPost.no {t : Int} {b : List UInt8} (h : deU t b = none) {w w' : World} (k : Below w.heap.size w w') : DuPost t b w (.returned (.tuple #[.agg #[.int .i64 0, .int .i64 0, .int .i64 0, .int .i64 0, .slice none 0 0], .int .i64 80])) w' := by
  obtain ⟨h1, h2⟩ := du_none h
  refine ⟨none, 0, ?_, ?_, k⟩
  · rw [h1, h2]; rfl
  · rw [h1]; exact .inl rfl
/-- The same, and what the list's capacity is. -/
def DuPc (t : Int) (b : List UInt8) (w : World) (e : Ending) (w' : World) : Prop :=
  ∃ ao cap, e = .returned (.tuple #[.agg #[.int .i64 (duU t b).t, .int .i64 (duU t b).r, .int .i64 (duU t b).a, .int .i64 (duU t b).i, .slice ao (duU t b).l.length cap], .int .i64 (duE t b : Nat)]) ∧ RdB w' ao (duU t b).l ∧ Below w.heap.size w w' ∧ (duU t b).l.length ≤ cap ∧ ((ao = none ∧ (duU t b).l.length = 0 ∧ cap = 0) ∨ ∃ a, ao = some a)
theorem DuPc.weak {t : Int} {b : List UInt8} {w w' : World} {e : Ending} (h : DuPc t b w e w') : DuPost t b w e w' := by
  obtain ⟨ao, cap, h1, h2, h3, _⟩ := h
  exact ⟨ao, cap, h1, h2, h3⟩
theorem DuPc.no {t : Int} {b : List UInt8} (h : deU t b = none) {w w' : World} (k : Below w.heap.size w w') : DuPc t b w (.returned (.tuple #[.agg #[.int .i64 0, .int .i64 0, .int .i64 0, .int .i64 0, .slice none 0 0], .int .i64 80])) w' := by
  obtain ⟨h1, h2⟩ := du_none h
  refine ⟨none, 0, ?_, ?_, k, ?_, .inl ⟨rfl, ?_, rfl⟩⟩
  · rw [h1, h2]; rfl
  · rw [h1]; exact .inl rfl
  · rw [h1]; exact Nat.le_refl 0
  · rw [h1]; rfl
theorem OwnB.capOf {w : World} {B : Nat} {T : TypeId} {ao : Option Addr} {n cap : Nat} {xs : List Bd} (h : OwnB w B T (.slice ao n cap) xs) : xs.length ≤ cap ∧ ((ao = none ∧ xs.length = 0 ∧ cap = 0) ∨ ∃ a, ao = some a) := by
  rcases h.2 with ⟨hv, h0⟩ | ⟨g, cap', cur, hv, hB, hh, hle, _⟩
  · injection hv with h1 h2 h3
    exact ⟨by omega, .inl ⟨h1, h0, h3⟩⟩
  · injection hv with h1 h2 h3
    subst h3
    exact ⟨hle, .inr ⟨_, h1⟩⟩
/-- How Decode ends before it reads a number. -/
inductive Du (t : Int) (b : List UInt8) : Prop
  | err (c : Nat) (h : prt 0 b = .error c) (hc : (((c : Nat) : Int) != 0) = true) (e : deU t b = none)
  | len (ps : List (Nat × List UInt8)) (h : prt 0 b = .ok ps) (hl : (((ps.length : Nat) : Int) != 4) = true) (e : deU t b = none)
  | t1 (p1 p2 p3 p4 : Nat × List UInt8) (h : prt 0 b = .ok [p1, p2, p3, p4]) (h1 : (((p1.1 : Nat) : Int) != 2) = true) (e : deU t b = none)
  | t2 (p1 p2 p3 p4 : Nat × List UInt8) (h : prt 0 b = .ok [p1, p2, p3, p4]) (h1 : p1.1 = 2) (h2 : (((p2.1 : Nat) : Int) != 2) = true) (e : deU t b = none)
  | t3 (p1 p2 p3 p4 : Nat × List UInt8) (h : prt 0 b = .ok [p1, p2, p3, p4]) (h1 : p1.1 = 2) (h2 : p2.1 = 2) (h3 : (((p3.1 : Nat) : Int) != 2) = true) (e : deU t b = none)
  | t4 (p1 p2 p3 p4 : Nat × List UInt8) (h : prt 0 b = .ok [p1, p2, p3, p4]) (h1 : p1.1 = 2) (h2 : p2.1 = 2) (h3 : p3.1 = 2) (h4 : (((p4.1 : Nat) : Int) != 48) = true) (e : deU t b = none)
  | go (p1 p2 p3 p4 : Nat × List UInt8) (h : prt 0 b = .ok [p1, p2, p3, p4]) (h1 : p1.1 = 2) (h2 : p2.1 = 2) (h3 : p3.1 = 2) (h4 : p4.1 = 48)
theorem deU_tags {t : Int} {b : List UInt8} {p1 p2 p3 p4 : Nat × List UInt8} (h : prt 0 b = .ok [p1, p2, p3, p4]) (hn : ¬ (p1.1 = 2 ∧ p2.1 = 2 ∧ p3.1 = 2 ∧ p4.1 = 48 ∧ nOk p1.2 = true ∧ nOk p2.2 = true ∧ nOk p3.2 = true)) : deU t b = none := by
  cases hd : deU t b with
  | none => rfl
  | some u =>
    obtain ⟨q1, q2, q3, q4, qs, hq, hc, _⟩ := D8.deU_inv hd
    rw [h] at hq
    injection hq with hq
    simp only [List.cons.injEq, and_true] at hq
    obtain ⟨rfl, rfl, rfl, rfl⟩ := hq
    exact absurd hc hn
theorem du_all (t : Int) (b : List UInt8) : Du t b := by
  cases h : prt 0 b with
  | error c =>
    refine .err c h ?_ ?_
    · rw [bne_iff_ne]; rcases prt_err h with rfl | rfl <;> decide
    · unfold deU; simp only [h]
  | ok ps =>
    by_cases hl : ps.length = 4
    · obtain ⟨p1, p2, p3, p4, rfl⟩ := four_of hl
      have ne : ∀ (x c : Nat), ¬ x = c → (((x : Nat) : Int) != ((c : Nat) : Int)) = true := fun x c h => by rw [bne_iff_ne]; omega
      by_cases h1 : p1.1 = 2
      · by_cases h2 : p2.1 = 2
        · by_cases h3 : p3.1 = 2
          · by_cases h4 : p4.1 = 48
            · exact .go p1 p2 p3 p4 h h1 h2 h3 h4
            · exact .t4 p1 p2 p3 p4 h h1 h2 h3 (ne _ _ h4) (deU_tags h (fun hc => h4 hc.2.2.2.1))
          · exact .t3 p1 p2 p3 p4 h h1 h2 (ne _ _ h3) (deU_tags h (fun hc => h3 hc.2.2.1))
        · exact .t2 p1 p2 p3 p4 h h1 (ne _ _ h2) (deU_tags h (fun hc => h2 hc.2.1))
      · exact .t1 p1 p2 p3 p4 h (ne _ _ h1) (deU_tags h (fun hc => h1 hc.1))
    · refine .len ps h (by rw [bne_iff_ne]; omega) ?_
      cases hd : deU t b with
      | none => rfl
      | some u =>
        obtain ⟨q1, q2, q3, q4, qs, hq, _⟩ := D8.deU_inv hd
        rw [h] at hq
        injection hq with hq
        rw [hq] at hl
        exact absurd rfl hl
/-- The two blocks of Decode: the element, and what is handed back. -/
theorem two_blocksU (P U : TypeId) (w : World) (k : Int) (b : List UInt8) : ∃ w2, (w.alloc (.cells #[.int .i64 k, .string (bs b)] P)).alloc (.cells #[.int .i64 0, .int .i64 0, .int .i64 0, .int .i64 0, .slice none 0 0] U) = w2 ∧
    Uq U w2 (w.heap.size + 1) nou none 0 ∧ Prt w2 w.heap.size P k b ∧ Below w.heap.size w w2 := by
  have hr := ((alloc_in (w.alloc (.cells #[.int .i64 k, .string (bs b)] P)) (.cells #[.int .i64 0, .int .i64 0, .int .i64 0, .int .i64 0, .slice none 0 0] U)).block w.heap.size (by simp)).trans (rowNew w _)
  refine ⟨_, rfl, ?_, hr, ((Below.refl _ _).alloc (Nat.le_refl _) _).alloc (by simp) _⟩
  have := Uq.new U (w.alloc (.cells #[.int .i64 k, .string (bs b)] P)) nou none 0
  rw [show (w.alloc (.cells #[.int .i64 k, .string (bs b)] P)).heap.size = w.heap.size + 1 by simp] at this
  exact this
theorem Uq.free {T : TypeId} {w : World} {b : Nat} {u : Un} {ao : Option Addr} {cap : Nat} (h : Uq T w b u ao cap) : w.frozen? ⟨b, 0, none⟩ = false ∧ w.frozen? ⟨b, 1, none⟩ = false ∧ w.frozen? ⟨b, 2, none⟩ = false ∧ w.frozen? ⟨b, 3, none⟩ = false ∧ w.frozen? ⟨b, 4, none⟩ = false :=
  ⟨freeRow h 0, freeRow h 1, freeRow h 2, freeRow h 3, freeRow h 4⟩
theorem Uq.set {T : TypeId} {w : World} {b : Nat} {u : Un} {ao : Option Addr} {cap : Nat} (h : Uq T w b u ao cap) (v : Un) (bo : Option Addr) (cb : Nat) :
    Uq T (((((w.setCell ⟨b, 0, none⟩ (.int .i64 v.t)).setCell ⟨b, 1, none⟩ (.int .i64 v.r)).setCell ⟨b, 2, none⟩ (.int .i64 v.a)).setCell ⟨b, 3, none⟩ (.int .i64 v.i)).setCell ⟨b, 4, none⟩ (.slice bo v.l.length cb)) b v bo cb := by
  have := rowSet (rowSet (rowSet (rowSet (rowSet h 0 (.int .i64 v.t)) 1 (.int .i64 v.r)) 2 (.int .i64 v.a)) 3 (.int .i64 v.i)) 4 (.slice bo v.l.length cb)
  simpa [Uq] using this
theorem below_set5 {B b : Nat} {w w' : World} (h : Below B w w') (hb : B ≤ b) (v0 v1 v2 v3 v4 : Value) : Below B w (((((w'.setCell ⟨b, 0, none⟩ v0).setCell ⟨b, 1, none⟩ v1).setCell ⟨b, 2, none⟩ v2).setCell ⟨b, 3, none⟩ v3).setCell ⟨b, 4, none⟩ v4) :=
  (below_set4 h hb v0 v1 v2 v3).setCell (p := ⟨b, 4, none⟩) hb v4
set_option maxRecDepth 100000 in
set_option maxHeartbeats 2000000 in
theorem qdecode8_early (t : Int) (b : List UInt8) (hp : b.length ≤ 140737488351232) (w : World) (hd : Du t b) (hn : ∀ p1 p2 p3 p4, prt 0 b = .ok [p1, p2, p3, p4] → ¬ (p1.1 = 2 ∧ p2.1 = 2 ∧ p3.1 = 2 ∧ p4.1 = 48)) :
    Calls Tryz.prog 29 #[.agg #[.int .i64 t, .string (bs b)]] w (DuPc t b w) := by
  have HQ := Lib.hid (fun w1 => qparts_walk b hp w1)
  unfold QaPost at HQ
  have HN := Lib.hid (fun (e : deU t b = none) (w' : World) (k : Below w.heap.size w w') => DuPc.no e k)
  obtain ⟨w2, hw2, hq, hpt, bw⟩ := two_blocksU 57 60 w t b
  have HW := Lib.hid hw2
  clear hw2
  cases hd
  case go p1 p2 p3 p4 h h1 h2 h3 h4 => exact absurd ⟨h1, h2, h3, h4⟩ (hn _ _ _ _ h)
  case err c h hc e =>
    have HE := Lib.hid e
    clear e hn
    go_enter Tryz.func29, Tryz.ntmps29
    go_wp2_with fail
    rw [HW.out]
    refine (HQ.out _).mono ?_
    rintro e w1 (⟨c', h', rfl, b1⟩ | ⟨ps, v, h', rfl, ho, b1⟩)
    rotate_left
    · rw [h] at h'; cases h'
    rw [h] at h'
    injection h' with h'
    subst h'
    clear h
    replace hq := hq.below b1
    replace bw := bw.trans (b1.mono bw.size)
    clear HQ HW b1 hpt
    obtain ⟨c0, c1, c2, c3, c4⟩ := hq.cells
    obtain ⟨f0, f1, f2, f3, f4⟩ := hq.free
    have PX := hq.set nou none 0
    have bb := below_set5 bw (b := w.heap.size + 1) (Nat.le_succ _) (.int .i64 0) (.int .i64 0) (.int .i64 0) (.int .i64 0) (.slice none 0 0)
    go_wp2
    refine bodyPost_ret (results_cell_row2 rfl _ _ (w.heap.size + 1) _ _ _ _ rfl PX Tryz.underlying60 rfl (by kernel_rfl)) rfl ?_
    exact HN.out HE.out _ bb
  case len ps h hl e =>
    have HE := Lib.hid e
    have HH := Lib.hid h
    clear e hn h
    go_enter Tryz.func29, Tryz.ntmps29
    go_wp2_with fail
    rw [HW.out]
    refine (HQ.out _).mono ?_
    rintro e w1 (⟨c', h', rfl, b1⟩ | ⟨ps', v, h', rfl, ho, b1⟩)
    · have h := HH.out; rw [h'] at h; cases h
    have h2 := HH.out
    rw [h'] at h2
    injection h2 with h2
    subst h2
    obtain ⟨ao, cap, rfl, hf⟩ := ho.form
    replace hq := hq.below b1
    replace bw := bw.trans (b1.mono bw.size)
    clear HQ HW b1 hpt hf ho h' HH
    obtain ⟨c0, c1, c2, c3, c4⟩ := hq.cells
    obtain ⟨f0, f1, f2, f3, f4⟩ := hq.free
    have PX := hq.set nou none 0
    have bb := below_set5 bw (b := w.heap.size + 1) (Nat.le_succ _) (.int .i64 0) (.int .i64 0) (.int .i64 0) (.int .i64 0) (.slice none 0 0)
    go_wp2
    refine bodyPost_ret (results_cell_row2 rfl _ _ (w.heap.size + 1) _ _ _ _ rfl PX Tryz.underlying60 rfl (by kernel_rfl)) rfl ?_
    exact HN.out HE.out _ bb
  case t1 p1 p2 p3 p4 h h1 e | t2 p1 p2 p3 p4 h h1 h2 e | t3 p1 p2 p3 p4 h h1 h2 h3 e | t4 p1 p2 p3 p4 h h1 h2 h3 h4 e =>
    have HE := Lib.hid e
    have HH := Lib.hid h
    clear e hn h
    obtain ⟨a1, l1⟩ := p1
    obtain ⟨a2, l2⟩ := p2
    obtain ⟨a3, l3⟩ := p3
    obtain ⟨a4, l4⟩ := p4
    simp only [] at *
    go_enter Tryz.func29, Tryz.ntmps29
    go_wp2_with fail
    rw [HW.out]
    refine (HQ.out _).mono ?_
    rintro e w1 (⟨c', h', rfl, b1⟩ | ⟨ps', v, h', rfl, ho, b1⟩)
    · have h := HH.out; rw [h'] at h; cases h
    have hh2 := HH.out
    rw [h'] at hh2
    injection hh2 with hh2
    subst hh2
    obtain ⟨ao, cap, rfl, hf⟩ := ho.form
    replace hq := hq.below b1
    replace bw := bw.trans (b1.mono bw.size)
    clear HQ HW b1 hpt ho h' HH
    obtain ⟨c0, c1, c2, c3, c4⟩ := hq.cells
    obtain ⟨f0, f1, f2, f3, f4⟩ := hq.free
    rcases hf with h0 | ⟨g, rfl, hg1, hg2, hg⟩
    · simp at h0
    obtain ⟨g0, _⟩ := hg 0 (by simp)
    obtain ⟨g2, _⟩ := hg 1 (by simp)
    obtain ⟨g4, _⟩ := hg 2 (by simp)
    obtain ⟨g6, _⟩ := hg 3 (by simp)
    simp only [List.getD_cons_zero, List.getD_cons_succ, Nat.zero_mul, Nat.one_mul, Nat.reduceMul] at g0 g2 g4 g6
    have PX := hq.set nou none 0
    have bb := below_set5 bw (b := w.heap.size + 1) (Nat.le_succ _) (.int .i64 0) (.int .i64 0) (.int .i64 0) (.int .i64 0) (.slice none 0 0)
    clear hg
    try subst h1
    try subst h2
    try subst h3
    go_wp2
    refine bodyPost_ret (results_cell_row2 rfl _ _ (w.heap.size + 1) _ _ _ _ rfl PX Tryz.underlying60 rfl (by kernel_rfl)) rfl ?_
    exact HN.out HE.out _ bb
end Go.Proofs.YtdgnhcbhbpffmaaGreatDoor
/- value's body, Encode, walked. -/
namespace Go.Proofs.YtdgnhcbhbpffmaaGreatDoor
open Go.ChangeShapes Go.WideShapes Go.ChangeAt Go.RowKit K P1 B5
set_option linter.unusedVariables false

theorem wr_of {k n : Int} {s : List UInt8} (h : V7.ckV k n s = true) : wrT k (V7.bdV k n s) = V7.enT k n s ∧ wrE k (V7.bdV k n s) = 0 := by
  obtain ⟨t1, t2, t3, _⟩ := V7.ck_tag h
  have hl := (V7.bd_len h).1
  have hi : isTi k = true := by
    unfold isTi
    rw [decide_eq_true (by omega : 0 ≤ k), decide_eq_true (by omega : k ≤ 255), t1]; rfl
  unfold wrT wrE
  rw [if_pos hi, if_pos hi, if_neg (by omega), if_neg (by omega), (V7.en_next h).1]
  exact ⟨rfl, rfl⟩
set_option maxRecDepth 100000 in
set_option maxHeartbeats 2000000 in
theorem body_walk (k n : Int) (s : List UInt8) (n0 : -9223372036854775808 ≤ n) (n1 : n ≤ 9223372036854775807) (h : V7.ckV k n s = true) (w : World) (T : Tabs w) :
    Calls Tryz.prog 134 #[.agg #[.int .i64 k, .int .i64 n, .string (bs s)]] w fun e w' => e = .returned (.string (bs (V7.bdV k n s))) ∧ Below w.heap.size w w' := by
  have hba := alloc_in w (.cells #[.int .i64 k, .int .i64 n, .string (bs s)] 46)
  cases V7.ways h with
  | int hk hs h0 h1 =>
    have HB : V7.bdV k n s = pn n := by unfold V7.bdV; rw [if_pos hk]
    rw [HB]
    have HN := Lib.hid (fun w1 => putnumber_walk n n0 n1 w1)
    clear HB h
    subst hk hs
    generalize pn n = P at *
    go_enter Tryz.func134, Tryz.ntmps134
    go_wp2_with fail
    refine (HN.out _).mono ?_
    rintro e w2 ⟨rfl, b2⟩
    go_wp2
    go_ret
    exact ⟨rfl, Below_in b2⟩
  | text hk hn hs =>
    have HB : V7.bdV k n s = s := by unfold V7.bdV; rw [if_neg (by omega), if_neg (by omega), if_neg (by omega)]
    rw [HB]
    clear HB h
    subst hn
    rcases hk with rfl | rfl
    all_goals
      go_enter Tryz.func134, Tryz.ntmps134
      go_wp2
      go_ret
      exact ⟨rfl, hba⟩
  | null hk hn hs =>
    have HB : V7.bdV k n s = s := by unfold V7.bdV; rw [if_neg (by omega), if_neg (by omega), if_neg (by omega)]
    rw [HB]
    clear HB h
    subst hn hk hs
    go_enter Tryz.func134, Tryz.ntmps134
    go_wp2
    go_ret
    exact ⟨rfl, hba⟩
  | addr hk hn hs =>
    have HB : V7.bdV k n s = s := by unfold V7.bdV; rw [if_neg (by omega), if_neg (by omega), if_neg (by omega)]
    rw [HB]
    clear HB h
    subst hn hk
    go_enter Tryz.func134, Tryz.ntmps134
    go_wp2
    go_ret
    exact ⟨rfl, hba⟩
  | oid hk hn l hl hs =>
    have HB : V7.bdV k n s = eb l := by unfold V7.bdV; rw [if_neg (by omega), if_neg (by omega), if_pos hk]; unfold V7.ob; rw [← hs, O6.arcs_put hl]; rfl
    rw [HB]
    have hsl : s.length ≤ 1000000 := by
      have h1 := O6.put_len l (O6.isArcs_le hl)
      have h2 := (O6.isArcs_len hl).2
      rw [← hs]; omega
    have hE := encode_walk s hsl _ (T.below hba)
    have h1 : enS s = eb l ∧ arE s = 0 := by
      have ha : O6.arcs s = some l := by rw [← hs]; exact O6.arcs_put hl
      unfold enS; rw [ha, (ar_some ha).2]; exact ⟨rfl, (ar_some ha).1⟩
    subst hn hk
    rw [h1.1, h1.2] at hE
    have HE := Lib.hid hE
    clear HB h hE h1 hl hs
    generalize eb l = B at *
    go_enter Tryz.func134, Tryz.ntmps134
    go_wp2_with fail
    refine HE.out.mono ?_
    rintro e w1 ⟨rfl, b1⟩
    go_wp2
    go_ret
    exact ⟨rfl, Below_in b1⟩
  | count hk hs h0 h1 =>
    have HB : V7.bdV k n s = un (V7.uu n) := by unfold V7.bdV; rw [if_neg (by omega), if_pos (by omega)]
    rw [HB]
    have HN := Lib.hid (fun w1 => putunsigned_walk (V7.uu n) (V7.uu_lt n) w1)
    have hu := u64_wrap n
    clear HB h
    subst hs
    generalize un (V7.uu n) = P at *
    generalize ((V7.uu n : Nat) : Int) = U at *
    rcases hk with rfl | rfl | rfl
    all_goals
      go_enter Tryz.func134, Tryz.ntmps134
      go_wp2_with fail
      refine (HN.out _).mono ?_
      rintro e w2 ⟨rfl, b2⟩
      go_wp2
      go_ret
      exact ⟨rfl, Below_in b2⟩
  | big hk hs =>
    have HB : V7.bdV k n s = un (V7.uu n) := by unfold V7.bdV; rw [if_neg (by omega), if_pos (by omega)]
    rw [HB]
    have HN := Lib.hid (fun w1 => putunsigned_walk (V7.uu n) (V7.uu_lt n) w1)
    have hu := u64_wrap n
    clear HB h
    subst hs hk
    generalize un (V7.uu n) = P at *
    generalize ((V7.uu n : Nat) : Int) = U at *
    go_enter Tryz.func134, Tryz.ntmps134
    go_wp2_with fail
    refine (HN.out _).mono ?_
    rintro e w2 ⟨rfl, b2⟩
    go_wp2
    go_ret
    exact ⟨rfl, Below_in b2⟩
set_option maxRecDepth 100000 in
set_option maxHeartbeats 2000000 in
theorem encode_walk7 (k n : Int) (s : List UInt8) (hs : s.length ≤ 1000000) (n0 : -9223372036854775808 ≤ n) (n1 : n ≤ 9223372036854775807) (w : World) (T : Tabs w) :
    Calls Tryz.prog 120 #[.agg #[.int .i64 k, .int .i64 n, .string (bs s)]] w fun e w' => e = .returned (.tuple #[.string (bs (V7.enT k n s)), .int .i64 (V7.ckE k n s : Nat)]) ∧ Below w.heap.size w w' := by
  have hba := alloc_in w (.cells #[.int .i64 k, .int .i64 n, .string (bs s)] 46)
  have hvn := Vr.new w k n s
  have hM := mayBe_walk k n s hs _ (T.below hba)
  cases h : V7.ckV k n s
  · have e1 : V7.enT k n s = [] ∧ V7.ckE k n s = 70 := by unfold V7.enT V7.ckE; rw [h]; exact ⟨rfl, rfl⟩
    rw [e1.1, e1.2]
    rw [h] at hM
    have HM := Lib.hid hM
    clear hM h e1 hvn
    go_enter Tryz.func120, Tryz.ntmps120
    go_wp2_with fail
    refine HM.out.mono ?_
    rintro e w1 ⟨rfl, b1⟩
    go_wp2
    go_ret2
    exact ⟨rfl, Below_in b1⟩
  · have e2 : V7.ckE k n s = 0 := by unfold V7.ckE; rw [h]; rfl
    obtain ⟨r1, r2⟩ := wr_of h
    have hbl := (V7.bd_len h).1
    have HB := Lib.hid (fun w1 (T1 : Tabs w1) => body_walk k n s n0 n1 h w1 T1)
    have hW := fun w1 => wrap_walk k (V7.bdV k n s) (by omega) w1
    rw [r1, r2] at hW
    rw [e2]
    rw [h] at hM
    have HM := Lib.hid hM
    have HW := Lib.hid hW
    have HT := Lib.hid (T.below hba)
    clear hM hW h e2 r1 r2 T
    generalize V7.enT k n s = E at *
    generalize V7.bdV k n s = B at *
    go_enter Tryz.func120, Tryz.ntmps120
    go_wp2_with fail
    generalize w.alloc (.cells #[.int .i64 k, .int .i64 n, .string (bs s)] 46) = w0 at *
    refine HM.out.mono ?_
    rintro e w1 ⟨rfl, b1⟩
    have T1 := Lib.hid (HT.out.below b1)
    have hv1 := hvn.below b1
    have bw := hba.trans (b1.mono hba.size)
    obtain ⟨z0, z1, z2⟩ := hv1
    clear b1 hba hvn HM HT
    go_wp2_with fail
    go_region_held3 (fun x => x.cell? ⟨w.heap.size, 0, none⟩ = some (.int .i64 k) ∧ x.cell? ⟨w.heap.size, 1, none⟩ = some (.int .i64 n) ∧ x.cell? ⟨w.heap.size, 2, none⟩ = some (.string (bs s))) (first | exact ⟨z0, z1, z2⟩ | exact y1 | exact y2)
      (first
        | (go_at_call 134; refine (HB.out _ (by exact T1.out)).mono ?_; rintro e x1 ⟨rfl, k1⟩; have k1' : Below w1.heap.size w1 x1 := ⟨k1.os, k1.tape, k1.output, k1.size, k1.block⟩; have b1 := bw.trans (k1'.mono bw.size); have hv1 := Vr.below ⟨z0, z1, z2⟩ k1'; have y1 := And.intro hv1.1 hv1.2)
        | (go_at_call 80; refine (HW.out _).mono ?_; rintro e x2 ⟨rfl, k2⟩; have k2' : Below x1.heap.size x1 x2 := ⟨k2.os, k2.tape, k2.output, k2.size, k2.block⟩; have b2 := b1.trans (k2'.mono b1.size); have hv2 := hv1.below k2'; have y2 := And.intro hv2.1 hv2.2))
    go_wp2
    go_ret2
    exact ⟨rfl, b2⟩
end Go.Proofs.YtdgnhcbhbpffmaaGreatDoor
/- The elements that the law on shortest forms grows: plain mathematics, of no program. -/
namespace Go.Proofs.YtdgnhcbhbpffmaaGreatDoor
open K P1
namespace B5

/-- One step: what is open, the innermost first; b: what to do, k: how long a text. -/
def gst (b : Int) (k : Nat) : List Fo → List Fo
  | [] => []
  | [t] => if b = 0 then [.nil, t] else [t.app (.leaf 4 (List.replicate k 120) .nil)]
  | t :: p :: q => if b = 0 ∧ q.length < 10 then .nil :: t :: p :: q else if b = 1 then p.app (.node 48 t .nil) :: q else t.app (.leaf 4 (List.replicate k 120) .nil) :: p :: q
theorem gst_one (b : Int) (k : Nat) (t : Fo) : gst b k [t] = if b = 0 then [.nil, t] else [t.app (.leaf 4 (List.replicate k 120) .nil)] := rfl
theorem gst_two (b : Int) (k : Nat) (t p : Fo) (q : List Fo) : gst b k (t :: p :: q) = if b = 0 ∧ q.length < 10 then .nil :: t :: p :: q else if b = 1 then p.app (.node 48 t .nil) :: q else t.app (.leaf 4 (List.replicate k 120) .nil) :: p :: q := rfl
def gall (b k : Nat → Int) : Nat → List Fo
  | 0 => [.nil]
  | i + 1 => gst (b i) (k i).toNat (gall b k i)
/-- All that is open is closed. -/
def gcl (t : Fo) : List Fo → Fo
  | [] => t
  | p :: q => gcl (p.app (.node 48 t .nil)) q
def GI : List Fo → Prop
  | [] => True
  | t :: r => t.WF ∧ t.dep + r.length ≤ 12 ∧ r.length ≤ 11 ∧ GI r
def tot : List Fo → Nat
  | [] => 0
  | t :: r => t.enc.length + 6 + tot r
theorem short_le (m : Nat) : (short m).length ≤ 5 := by
  rw [short_len]; have := kb_pos m
  by_cases h : m < 128
  · rw [if_pos h]; omega
  · rw [if_neg h]; omega
theorem enc_leaf (t : Fo) (k : Nat) : (t.app (.leaf 4 (List.replicate k 120) .nil)).enc = t.enc ++ put 4 (List.replicate k 120) := by
  rw [Fo.enc_app]; show _ ++ (put 4 _ ++ []) = _; rw [List.append_nil]
theorem enc_node (p t : Fo) : (p.app (.node 48 t .nil)).enc = p.enc ++ put 48 t.enc := by
  rw [Fo.enc_app]; show _ ++ (put 48 _ ++ []) = _; rw [List.append_nil]
theorem leaf_facts (t : Fo) (k : Nat) (hw : t.WF) (hk : k < 200) : (t.app (.leaf 4 (List.replicate k 120) .nil)).WF ∧ (t.app (.leaf 4 (List.replicate k 120) .nil)).dep = max t.dep 1 ∧ (t.app (.leaf 4 (List.replicate k 120) .nil)).enc.length ≤ t.enc.length + k + 6 := by
  refine ⟨Fo.WF_app _ _ hw ⟨rfl, by omega, rfl, by rw [List.length_replicate]; omega, trivial⟩, ?_, ?_⟩
  · rw [Fo.dep_app, Fo.dep_leaf]; simp [Fo.dep]
  · rw [enc_leaf, List.length_append, put_len, List.length_replicate]
    have := short_le k; omega
theorem node_facts (p t : Fo) (hp : p.WF) (ht : t.WF) (hl : t.enc.length < 4294967296) : (p.app (.node 48 t .nil)).WF ∧ (p.app (.node 48 t .nil)).dep = max p.dep (t.dep + 1) ∧ (p.app (.node 48 t .nil)).enc.length ≤ p.enc.length + t.enc.length + 6 := by
  refine ⟨Fo.WF_app _ _ hp ⟨rfl, by omega, rfl, hl, ht, trivial⟩, ?_, ?_⟩
  · rw [Fo.dep_app, Fo.dep_node]; simp [Fo.dep]
  · rw [enc_node, List.length_append, put_len]
    have := short_le t.enc.length; omega
theorem gst_facts (b : Int) (k : Nat) (hk : k < 200) : ∀ (st : List Fo), st ≠ [] → GI st → tot st < 4000000000 → gst b k st ≠ [] ∧ GI (gst b k st) ∧ tot (gst b k st) ≤ tot st + 206
  | [], h, _, _ => absurd rfl h
  | [t], _, ⟨h1, h2, h3, h4⟩, ht => by
    rw [gst_one]
    by_cases hb : b = 0
    · rw [if_pos hb]
      exact ⟨by simp, ⟨trivial, by simp [Fo.dep], by simp, h1, h2, h3, h4⟩, by simp [tot, Fo.enc]; omega⟩
    · rw [if_neg hb]
      obtain ⟨l1, l2, l3⟩ := leaf_facts t k h1 hk
      exact ⟨by simp, ⟨l1, by rw [l2]; simp at h2 ⊢; omega, by simp, trivial⟩, by simp only [tot] at *; omega⟩
  | t :: p :: q, _, ⟨h1, h2, h3, p1, p2, p3, h4⟩, ht => by
    rw [gst_two]
    rw [List.length_cons] at h2 h3
    simp only [tot] at ht
    by_cases hb : b = 0 ∧ q.length < 10
    · rw [if_pos hb]
      exact ⟨by simp, ⟨trivial, by simp [Fo.dep]; omega, by simp; omega, h1, by rw [List.length_cons]; exact h2, by rw [List.length_cons]; exact h3, p1, p2, p3, h4⟩, by simp only [tot, Fo.enc, List.length_nil]; omega⟩
    · rw [if_neg hb]
      by_cases hb1 : b = 1
      · rw [if_pos hb1]
        obtain ⟨n1, n2, n3⟩ := node_facts p t p1 h1 (by omega)
        exact ⟨by simp, ⟨n1, by rw [n2]; omega, p3, h4⟩, by simp only [tot]; omega⟩
      · rw [if_neg hb1]
        obtain ⟨l1, l2, l3⟩ := leaf_facts t k h1 hk
        exact ⟨by simp, ⟨l1, by rw [l2, List.length_cons]; omega, by rw [List.length_cons]; exact h3, p1, p2, p3, h4⟩, by simp only [tot]; omega⟩
theorem gall_facts (b k : Nat → Int) (hk : ∀ i, 0 ≤ k i ∧ k i < 200) : ∀ i, i ≤ 60 → gall b k i ≠ [] ∧ GI (gall b k i) ∧ tot (gall b k i) ≤ 6 + 206 * i
  | 0, _ => ⟨by simp [gall], ⟨trivial, by simp [Fo.dep], by simp, trivial⟩, by simp [gall, tot, Fo.enc]⟩
  | i + 1, h => by
    obtain ⟨h1, h2, h3⟩ := gall_facts b k hk i (by omega)
    have := hk i
    obtain ⟨g1, g2, g3⟩ := gst_facts (b i) (k i).toNat (by omega) (gall b k i) h1 h2 (by omega)
    exact ⟨g1, g2, by show tot (gst (b i) (k i).toNat (gall b k i)) ≤ _; omega⟩
theorem gcl_facts : ∀ (q : List Fo) (t : Fo), GI (t :: q) → tot (t :: q) < 4000000000 → (gcl t q).WF ∧ (gcl t q).dep ≤ 12 ∧ (gcl t q).enc.length + 6 ≤ tot (t :: q)
  | [], t, ⟨h1, h2, _, _⟩, _ => ⟨h1, by simpa [gcl] using h2, by simp [gcl, tot]⟩
  | p :: q, t, ⟨h1, h2, h3, p1, p2, p3, h4⟩, ht => by
    rw [List.length_cons] at h2 h3
    simp only [tot] at ht
    obtain ⟨n1, n2, n3⟩ := node_facts p t p1 h1 (by omega)
    obtain ⟨g1, g2, g3⟩ := gcl_facts q (p.app (.node 48 t .nil)) ⟨n1, by rw [n2]; omega, p3, h4⟩ (by simp only [tot]; omega)
    refine ⟨g1, g2, ?_⟩
    show (gcl (p.app (.node 48 t .nil)) q).enc.length + 6 ≤ _
    simp only [tot] at *; omega
/-- The element that is grown. -/
def grow : List Fo → Fo
  | [] => .nil
  | t :: q => .node 48 (gcl t q) .nil
theorem grow_facts {st : List Fo} (h0 : st ≠ []) (h1 : GI st) (h2 : tot st ≤ 20000) : (grow st).WF ∧ 1 ≤ (grow st).dep ∧ (grow st).dep ≤ 13 ∧ (grow st).enc.length ≤ 20006 ∧ ∃ t cs, grow st = .node t cs .nil := by
  cases st with
  | nil => exact absurd rfl h0
  | cons t q =>
    obtain ⟨g1, g2, g3⟩ := gcl_facts q t h1 (by omega)
    have hd : (grow (t :: q)).dep = (gcl t q).dep + 1 := by
      show (Fo.node 48 (gcl t q) .nil).dep = _
      rw [Fo.dep_node]; simp [Fo.dep]
    refine ⟨⟨rfl, by omega, rfl, by omega, g1, trivial⟩, by omega, by omega, ?_, _, _, rfl⟩
    show (put 48 (gcl t q).enc ++ []).length ≤ _
    rw [List.append_nil, put_len]
    have := short_le (gcl t q).enc.length; omega
end B5
end Go.Proofs.YtdgnhcbhbpffmaaGreatDoor
