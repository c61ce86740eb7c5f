/- Texts on the program and on the document, joined: BerA. -/
import Derived.Test.YtlpknkfidcojeaaGreatDoorMa03
import Derived.Test.YtlpknkfidcojeaaGreatDoorMa04
import Derived.Test.YtlpknkfidcojeaaGreatDoorMa05
import Derived.BigQuiet
import Derived.Deep.RegionWith
import Derived.Laws.Rows
import Derived.Deep.QuietTactic
/- ber's tags, lengths, Next, walked. -/
namespace Go.Proofs.YtlpknkfidcojeaaGreatDoor
open Go.ChangeShapes Go.WideShapes Go.ChangeAt Go.RowKit K P1 B5
set_option linter.unusedVariables false

theorem and31 (t : Int) (h0 : 0 ≤ t) (h1 : t ≤ 255) : bits .and .i64 t 31 = t % 32 := by
  have h : ∀ i : Fin 256, bits .and .i64 (i.val : Int) 31 = (i.val : Int) % 32 := by decide +kernel
  obtain ⟨k, rfl⟩ := Int.eq_ofNat_of_zero_le h0
  exact h ⟨k, by omega⟩
theorem and32 (t : Nat) (h1 : t < 256) : (bits .and .i64 (t : Int) 32 == 0) = !isMade t := by
  have h : ∀ i : Fin 256, (bits .and .i64 (i.val : Int) 32 == 0) = !isMade i.val := by decide +kernel
  exact h ⟨t, h1⟩
theorem istag_walk (t : Int) (w : World) :
    Calls Tryz.prog 48 #[.int .i64 t] w fun e w' => e = .returned (.bool (isTi t)) ∧ w = w' := by
  by_cases h0 : 0 ≤ t
  · by_cases h1 : t ≤ 255
    · have e : isTi t = (t % 32 != 31) := by
        unfold isTi isTag
        rw [decide_eq_true h0, decide_eq_true h1, Bool.true_and, Bool.true_and, Bool.eq_iff_iff, bne_iff_ne, bne_iff_ne]; omega
      have hand := and31 t h0 h1
      rw [e]; clear e
      go_enter Tryz.func48, Tryz.ntmps48
      go_wp2
      all_goals (go_ret; exact ⟨rfl, rfl⟩)
    · have e : isTi t = false := by unfold isTi; rw [decide_eq_false h1, Bool.false_and, Bool.and_false]
      rw [e]
      have h1' : 256 ≤ t := by omega
      clear h1 e
      go_enter Tryz.func48, Tryz.ntmps48
      go_wp2
      go_ret
      exact ⟨rfl, rfl⟩
  · have e : isTi t = false := by unfold isTi; rw [decide_eq_false h0, Bool.false_and]
    rw [e]
    have h0' : t ≤ -1 := by omega
    clear h0 e
    go_enter Tryz.func48, Tryz.ntmps48
    go_wp2
    go_ret
    exact ⟨rfl, rfl⟩
theorem parts_walk (t : Nat) (ht : t < 256) (b : List UInt8) (w : World) :
    Calls Tryz.prog 77 #[.agg #[.int .i64 t, .string (bs b)]] w fun e w' => e = .returned (.string (bs (if isMade t then b else []))) ∧ Below w.heap.size w w' := by
  have h := and32 t ht
  cases hm : isMade t
  · rw [hm] at h
    rw [if_neg (by simp)]
    have h1 : (bits .and .i64 (t : Int) 32 == 0) = true := h
    clear h hm
    go_enter Tryz.func77, Tryz.ntmps77
    go_wp2
    go_ret
    exact ⟨rfl, (Below.refl _ _).alloc (Nat.le_refl _) _⟩
  · rw [hm] at h
    rw [if_pos rfl]
    have h1 : (bits .and .i64 (t : Int) 32 == 0) = false := h
    clear h hm
    go_enter Tryz.func77, Tryz.ntmps77
    go_wp2
    go_ret
    exact ⟨rfl, (Below.refl _ _).alloc (Nat.le_refl _) _⟩
theorem rdW_ok (s : List UInt8) (p : Nat) (c k : Int) (h : Ok s p c) : Ok s (rdW s p c k).2.1 (rdW s p c k).2.2 := by
  have h1 := h.at_
  unfold rdW
  split
  · exact h
  · split
    · exact ⟨h.len, h1, by simp, by simp⟩
    · split
      · exact ⟨h.len, h1, by simp, by simp⟩
      · split
        · exact ⟨h.len, by simp only []; omega, by simp, by simp⟩
        · exact ⟨h.len, h1, by simp, by simp⟩
theorem rdW_small (s : List UInt8) (p : Nat) (c : Int) : (rdW s p c 1).1 < 256 := by
  by_cases hc : c = 0
  · subst hc
    by_cases hp : p < s.length
    · rw [rdW_one s p hp]; exact byt_lt s p
    · rw [rdW_late s p (by omega)]; simp
  · rw [rdW_off _ _ _ _ hc]; simp
theorem rdW_bound (s : List UInt8) (p : Nat) (c k : Int) : (rdW s p c k).1 < 9223372036854775808 := by
  unfold rdW
  split
  · simp
  · split
    · simp
    · split
      · simp
      · split
        · next h =>
          simp only []
          unfold numOk at h
          have hl := num_lt ((s.drop p).take k.toNat)
          have hle : ((s.drop p).take k.toNat).length ≤ 8 := by rw [List.length_take]; omega
          by_cases h8 : ((s.drop p).take k.toNat).length = 8
          · rw [h8] at hl h
            simp at h
            match hs : (s.drop p).take k.toNat with
            | [] => rw [hs] at h8; simp at h8
            | a :: r =>
              rw [hs] at h8 h
              have hr : r.length = 7 := by simpa using h8
              have hb : byt (a :: r) 0 = a.toNat := by simp [byt]
              rw [hb] at h
              rw [num_cons, hr]
              have := num_lt r
              rw [hr] at this
              have : a.toNat * 256 ^ 7 ≤ 127 * 256 ^ 7 := Nat.mul_le_mul_right _ (by omega)
              omega
          · have : (256 : Nat) ^ ((s.drop p).take k.toNat).length ≤ 256 ^ 7 := Nat.pow_le_pow_right (by omega) (by omega)
            omega
        · simp
set_option maxRecDepth 100000 in
theorem length_walk (b T : Nat) (s : List UInt8) (p : Nat) (c : Int) (ok : Ok s p c) (w : World) (h : Rdr w b T s p c) :
    Calls Tryz.prog 46 #[.pointer (some ⟨b, 0, none⟩)] w fun e w' => e = .returned (.int .i64 (lenR s p c).1) ∧ Kp [b] w w' ∧ Rdr w' b T s (lenR s p c).2.1 (lenR s p c).2.2 := by
  have ok1 := rdW_ok s p c 1 ok
  have hsm := rdW_small s p c
  have HA := Lib.hid (rWide_walk b T s p c 1 ok w h)
  have hE : lenR s p c = if (rdW s p c 1).1 < 128 then rdW s p c 1 else rdW s (rdW s p c 1).2.1 (if 132 < (rdW s p c 1).1 then newc (rdW s p c 1).2.2 50 else (rdW s p c 1).2.2) (((rdW s p c 1).1 : Int) - 128) := rfl
  clear h ok
  generalize hq : rdW s p c 1 = q at *
  obtain ⟨n, p1, c1⟩ := q
  simp only [] at hE ok1 hsm HA
  clear hq
  by_cases h1 : n < 128
  · rw [if_pos h1] at hE
    have h1' : ((n : Nat) : Int) < 128 := by omega
    have HE := Lib.hid hE
    clear hE h1
    go_enter Tryz.func46, Tryz.ntmps46
    go_wp2_with fail
    refine HA.out.mono ?_
    rintro e w1 ⟨rfl, kp, r1⟩
    go_wp2
    go_ret
    rw [HE.out]
    exact ⟨rfl, kp, r1⟩
  · rw [if_neg h1] at hE
    have h1' : (128 : Int) ≤ ((n : Nat) : Int) := by omega
    by_cases h2 : 132 < n
    · rw [if_pos h2] at hE
      have h2' : (4 : Int) < ((n : Nat) : Int) - 128 := by omega
      have ok2 : Ok s p1 (newc c1 50) := ⟨ok1.len, ok1.at_, by unfold newc; have := ok1.lo; split <;> omega, by unfold newc; have := ok1.hi; split <;> omega⟩
      have HR := Lib.hid (fun w1 (h : Rdr w1 b T s p1 c1) => refuse_walk b T s p1 c1 50 w1 h)
      have HB := Lib.hid (fun w1 (h : Rdr w1 b T s p1 (newc c1 50)) => rWide_walk b T s p1 (newc c1 50) ((n : Int) - 128) ok2 w1 h)
      have HE := Lib.hid hE
      clear hE h1 h2
      go_enter Tryz.func46, Tryz.ntmps46
      go_wp2_with fail
      refine HA.out.mono ?_
      rintro e w1 ⟨rfl, kp, r1⟩
      go_wp2_with fail
      refine (HR.out w1 r1).mono ?_
      rintro e w2 ⟨rfl, kp2, r2⟩
      go_wp2_with fail
      refine (HB.out w2 r2).mono ?_
      rintro e w3 ⟨rfl, kp3, r3⟩
      go_wp2
      go_ret
      rw [HE.out]
      exact ⟨rfl, (kp.trans kp2).trans kp3, r3⟩
    · rw [if_neg h2] at hE
      have h2' : ((n : Nat) : Int) - 128 ≤ 4 := by omega
      have HB := Lib.hid (fun w1 (h : Rdr w1 b T s p1 c1) => rWide_walk b T s p1 c1 ((n : Int) - 128) ok1 w1 h)
      have HE := Lib.hid hE
      clear hE h1 h2
      go_enter Tryz.func46, Tryz.ntmps46
      go_wp2_with fail
      refine HA.out.mono ?_
      rintro e w1 ⟨rfl, kp, r1⟩
      go_wp2_with fail
      refine (HB.out w1 r1).mono ?_
      rintro e w3 ⟨rfl, kp3, r3⟩
      go_wp2
      go_ret
      rw [HE.out]
      exact ⟨rfl, kp.trans kp3, r3⟩
theorem lenR_ok (s : List UInt8) (p : Nat) (c : Int) (ok : Ok s p c) : Ok s (lenR s p c).2.1 (lenR s p c).2.2 ∧ (lenR s p c).1 < 9223372036854775808 := by
  have ok1 := rdW_ok s p c 1 ok
  unfold lenR
  by_cases h1 : (rdW s p c 1).1 < 128
  · rw [if_pos h1]; exact ⟨ok1, by omega⟩
  · rw [if_neg h1]
    refine ⟨rdW_ok _ _ _ _ ⟨ok1.len, ok1.at_, ?_, ?_⟩, rdW_bound _ _ _ _⟩
    · have := ok1.lo; unfold newc; split <;> (try split) <;> omega
    · have := ok1.hi; unfold newc; split <;> (try split) <;> omega
theorem nx_way (s : List UInt8) : (nxE s = 0 ∧ nxQ s = ((rA s).1, (rBd s).1, s.drop (rBd s).2.1) ∧ (rBd s).2.2 = 0 ∧ isTi ((rA s).1 : Nat) = true ∧ (rBd s).2.1 ≤ s.length) ∨
    (nxE s = 50 ∧ nxQ s = (0, [], []) ∧ (¬ (rBd s).2.2 = 0 ∨ ((rBd s).2.2 = 0 ∧ isTi ((rA s).1 : Nat) = false))) := by
  have hI : ∀ n : Nat, n < 256 → isTi (n : Int) = isTag n := by
    intro n hn
    unfold isTi; rw [decide_eq_true (by omega), decide_eq_true (by omega), Int.toNat_natCast]; rfl
  rcases nxr_all s with ⟨h, a1, a2, a3, a4, a5, a6, a7⟩ | ⟨h, a1, a2⟩
  · left
    refine ⟨by unfold nxE; rw [h, if_pos rfl], by unfold nxQ; rw [h, if_pos rfl, a1, a4, a6], a5, by rw [hI _ a3]; exact a2, a7⟩
  · right
    refine ⟨by unfold nxE; rw [h]; rfl, by unfold nxQ; rw [h]; rfl, ?_⟩
    rw [hI _ a1]; exact a2
/-- An element in block g. -/
def Prt (w : World) (g T : Nat) (t : Int) (b : List UInt8) : Prop := w.heap[g]? = some (.cells #[.int .i64 t, .string (bs b)] T (0, 0))
theorem Prt.cells {w : World} {g T : Nat} {t : Int} {b : List UInt8} (h : Prt w g T t b) :
    w.cell? ⟨g, 0, none⟩ = some (.int .i64 t) ∧ w.cell? ⟨g, 1, none⟩ = some (.string (bs b)) ∧ w.frozen? ⟨g, 0, none⟩ = false ∧ w.frozen? ⟨g, 1, none⟩ = false :=
  ⟨cellRow h 0, cellRow h 1, freeRow h 0, freeRow h 1⟩
theorem Prt.setT {w : World} {g T : Nat} {t : Int} {b : List UInt8} (h : Prt w g T t b) (t2 : Int) : Prt (w.setCell ⟨g, 0, none⟩ (.int .i64 t2)) g T t2 b := by
  have := rowSet h 0 (.int .i64 t2); simpa [Prt] using this
theorem Prt.setB {w : World} {g T : Nat} {t : Int} {b : List UInt8} (h : Prt w g T t b) (b2 : List UInt8) : Prt (w.setCell ⟨g, 1, none⟩ (.string (bs b2))) g T t b2 := by
  have := rowSet h 1 (.string (bs b2)); simpa [Prt] using this
theorem Prt.new (w : World) (T : Nat) (t : Int) (b : List UInt8) : Prt (w.alloc (.cells #[.int .i64 t, .string (bs b)] T)) w.heap.size T t b := rowNew w _
theorem Prt.kp {S : List Nat} {a w : World} {g T : Nat} {t : Int} {b : List UInt8} (h : Prt a g T t b) (k : Kp S a w) (hg : g ∉ S) : Prt w g T t b := k.heap h hg
theorem Rdr.setElse {w : World} {b T : Nat} {s : List UInt8} {p : Nat} {c : Int} (h : Rdr w b T s p c) (g i : Nat) (hg : b ≠ g) (u : Value) : Rdr (w.setCell ⟨g, i, none⟩ u) b T s p c :=
  (Below.heap_setCell _ _ _ _ hg).trans h
theorem results_cell_row3 {P : Program} {fn : Func} {p u v : Tmp} {ty : TypeId} (h : fn.results = #[.cell p ty, .tmp u, .tmp v]) (tmps : Array Value) (w : World) (g : Nat) (t : TypeId) (cs : Array Value) (fr : Nat × Nat) (d : TypeDesc)
    (hp : tmps.getD p undef = .pointer (some ⟨g, 0, none⟩)) (hg : w.heap[g]? = some (.cells cs t fr))
    (hu : P.underlying ty = some d) (hd : (match d with | .struct _ | .array _ _ => true | _ => false) = true) (hi : (P.info? ty).map (·.size) = some cs.size) :
    (results fn tmps).run P w = .ok (.tuple #[.agg cs, tmps.getD u undef, tmps.getD v undef]) w := by
  have hp' : tmps[p]?.getD undef = .pointer (some ⟨g, 0, none⟩) := by simpa using hp
  simp [results, h, hp', asAddr, run_loadVar_row w g t ty cs fr d hg hu hd hi]
theorem Below_drewNa {B : Nat} {a b : World} (h : Below B a b) (n : Nat) : Below B a (b.drewN n) := ⟨h.os, h.tape, h.output, h.size, h.block⟩
theorem quiet_dr {P : Program} {f : FuncId} {args : Array Value} {w : World} {n : Nat} {v : Value}
    (h : Calls P f args (w.drewN n) fun e w' => e = .returned v ∧ ∃ k, w' = (w.drewN n).drewN k) : Calls P f args (w.drewN n) fun e w'' => e = .returned v ∧ ∃ m, w'' = w.drewN m :=
  h.mono fun _ _ ⟨he, k, hk⟩ => ⟨he, n + k, by rw [hk]; unfold World.drewN; simp [Nat.add_assoc]⟩
set_option maxRecDepth 100000 in
set_option maxHeartbeats 1000000 in
theorem next_walk (s : List UInt8) (hs : s.length ≤ 140737488351232) (w : World) :
    Calls Tryz.prog 20 #[.string (bs s)] w fun e w' => e = .returned (.tuple #[.agg #[.int .i64 ((nxQ s).1 : Nat), .string (bs (nxQ s).2.1)], .string (bs (nxQ s).2.2), .int .i64 (nxE s : Nat)]) ∧ Below w.heap.size w w' := by
  have ok0 : Ok s 0 0 := ⟨hs, Nat.zero_le _, by omega, by omega⟩
  have hA := fun b w1 (h : Rdr w1 b 120 s 0 0) => rWide_walk b 120 s 0 0 1 ok0 w1 h
  have ok1 : Ok s (rA s).2.1 (rA s).2.2 := rdW_ok s 0 0 1 ok0
  have hL := fun b w1 (h : Rdr w1 b 120 s (rA s).2.1 (rA s).2.2) => length_walk b 120 s (rA s).2.1 (rA s).2.2 ok1 w1 h
  obtain ⟨ok2, hn2⟩ : Ok s (rL s).2.1 (rL s).2.2 ∧ (rL s).1 < 9223372036854775808 := lenR_ok s _ _ ok1
  have hB := fun b w1 (h : Rdr w1 b 120 s (rL s).2.1 (rL s).2.2) => rBytes_walk b 120 s (rL s).2.1 (rL s).2.2 (rL s).1 ok2 (by omega) (by omega) w1 h
  have ok3 : Ok s (rBd s).2.1 (rBd s).2.2 := rdB_ok s _ _ _ ok2
  have hC := fun b w1 (h : Rdr w1 b 120 s (rBd s).2.1 (rBd s).2.2) => code_walk b 120 s (rBd s).2.1 (rBd s).2.2 w1 h
  have hLf := fun b w1 (h : Rdr w1 b 120 s (rBd s).2.1 (rBd s).2.2) => left_walk b 120 s (rBd s).2.1 (rBd s).2.2 ok3 w1 h
  have hI := fun w1 => istag_walk ((rA s).1 : Nat) w1
  have hW := nx_way s
  rw [show rdW s 0 0 1 = rA s from rfl] at hA
  rw [show lenR s (rA s).2.1 (rA s).2.2 = rL s from rfl] at hL
  rw [show rdB s (rL s).2.1 (rL s).2.2 ((rL s).1 : Nat) = rBd s from rfl] at hB
  generalize rA s = qa at *
  generalize rL s = ql at *
  generalize rBd s = qb at *
  obtain ⟨t, p1, c1⟩ := qa
  obtain ⟨n, p2, c2⟩ := ql
  obtain ⟨bd, p3, c3⟩ := qb
  simp only [] at hA hL hB hC hLf hI hW
  have HA := Lib.hid hA; have HL := Lib.hid hL; have HB := Lib.hid hB; have HC := Lib.hid hC; have HLf := Lib.hid hLf; have HI := Lib.hid hI
  clear ok0 ok1 ok2 ok3 hA hL hB hC hLf hI hn2
  have HP := Lib.hid (Prt.new w 30 0 [])
  have b0 : Below w.heap.size w (w.alloc (.cells #[.int .i64 0, .string (bs [])] 30)) := (Below.refl _ _).alloc (Nat.le_refl _) _
  have HLT := Lib.hid (show w.heap.size < (w.alloc (.cells #[.int .i64 0, .string (bs [])] 30)).heap.size by simp)
  rcases hW with ⟨e1, e2, rfl, hti, hp3⟩ | ⟨e1, e2, hbad⟩
  · rw [e1, e2]
    simp only []
    rw [hti] at HI
    have hsub : ((s.length : Nat) : Int) - ((s.length - p3 : Nat) : Int) = (p3 : Nat) := by omega
    clear e1 e2 hti
    go_enter Tryz.func20, Tryz.ntmps20
    go_wp2_with fail
    change Calls _ _ _ (w.alloc (.cells #[.int .i64 0, .string (bs [])] 30)) _
    generalize w.alloc (.cells #[.int .i64 0, .string (bs [])] 30) = w0 at *
    have hlt := HLT.out
    generalize hgg : w.heap.size = g at *
    refine (read_walk s w0).mono ?_
    rintro e w1 ⟨rfl, k1, hsz, r1⟩
    have P1 := HP.out.kp k1 (by simp)
    generalize hrb : w0.heap.size = rb at *
    have hgb : rb ≠ g := by omega
    go_wp2_with fail
    refine (HA.out rb w1 r1).mono ?_
    rintro e w2 ⟨rfl, k2, r2⟩
    have P2 := P1.kp k2 (by simp; omega)
    obtain ⟨c0, c1', f0, f1⟩ := P2.cells
    have P2h := Lib.hid P2
    clear P1 P2
    go_wp2_with fail
    refine (HL.out rb _ (r2.setElse g 0 hgb _)).mono ?_
    rintro e w3 ⟨rfl, k3, r3⟩
    clear c0 c1' f0 f1
    go_wp2_with fail
    refine (HB.out rb _ r3).mono ?_
    rintro e w4 ⟨rfl, k4, r4⟩
    have P4 := ((P2h.out.setT t).kp k3 (by simp; omega)).kp k4 (by simp; omega)
    have b4 : Below g w w4 := by
      have q1 : Below g w w1 := b0.trans (k1.below (by rw [hrb]; omega) (by simp))
      have q2 : Below g w w2 := q1.trans (k2.below (by have := k1.size; omega) (by simp; omega))
      have q3 := q2.setCell (p := ⟨g, 0, none⟩) (Nat.le_refl g) (.int .i64 (t : Nat))
      have q4 : Below g w w3 := q3.trans (k3.below (by have := k2.size; have := k1.size; simp; omega) (by simp; omega))
      exact q4.trans (k4.below (by have := k3.size; have := k2.size; have := k1.size; simp at *; omega) (by simp; omega))
    obtain ⟨c0, c1', f0, f1⟩ := P4.cells
    have P4h := Lib.hid P4
    clear P4 k1 k2 k3 k4 r1 r2 r3 hsz P2h HA HL HB HP b0 HLT hrb
    have r5 := Lib.hid (r4.setElse g 1 hgb (.string (bs bd)))
    have P5 := P4h.out.setB bd
    have b5 := b4.setCell (p := ⟨g, 1, none⟩) (Nat.le_refl g) (.string (bs bd))
    clear r4 b4
    go_wp2_with fail
    generalize w4.setCell ⟨g, 1, none⟩ (.string (bs bd)) = w5 at *
    clear c0 c1' f0 f1 P4h
    obtain ⟨c0, c1', f0, f1⟩ := P5.cells
    have P5h := Lib.hid P5
    clear P5
    refine (HC.out rb _ r5.out).mono ?_
    rintro e w6 ⟨rfl, rfl⟩
    go_wp2_with fail
    refine (HI.out _).mono ?_
    rintro e w6 ⟨rfl, rfl⟩
    have hwr : IntKind.i64.wrap ((p3 : Nat) : Int) = (p3 : Nat) := IntWalk.i64_in _ (by omega)
    have hp3' : ((p3 : Nat) : Int) ≤ ((s.length : Nat) : Int) := by omega
    go_wp2_with fail
    go_region_with (first | (go_at_call 49; refine Calls.mono (HLf.out rb _ ?_) ?_; exact r5.out; rintro e x1 ⟨rfl, hx⟩; have d0 : x1.cell? ⟨g, 0, none⟩ = some (.int .i64 (t : Nat)) := (by obtain ⟨m, rfl⟩ := hx; exact c0); have d1 : x1.cell? ⟨g, 1, none⟩ = some (.string (bs bd)) := (by obtain ⟨m, rfl⟩ := hx; exact c1'); have d2 : x1.frozen? ⟨g, 0, none⟩ = false := (by obtain ⟨m, rfl⟩ := hx; exact f0); have d3 : x1.frozen? ⟨g, 1, none⟩ = false := (by obtain ⟨m, rfl⟩ := hx; exact f1)))
    all_goals
      obtain ⟨m, rfl⟩ := hx
      have bb := ((Below_drewNa b5 m).setCell (p := ⟨g, 0, none⟩) (Nat.le_refl g) (.int .i64 (t : Nat))).setCell (p := ⟨g, 1, none⟩) (Nat.le_refl g) (.string (bs bd))
      have PX := ((show Prt (w5.drewN m) g 30 (t : Nat) bd from P5h.out).setT (t : Nat)).setB bd
      go_wp2
      refine bodyPost_ret (results_cell_row3 rfl _ _ g _ #[.int .i64 (t : Nat), .string (bs bd)] _ _ rfl PX Tryz.underlying30 rfl (by kernel_rfl)) rfl ?_
      exact ⟨rfl, by rw [hgg]; exact ⟨bb.os, bb.tape, bb.output, bb.size, bb.block⟩⟩
  · rw [e1, e2]
    simp only []
    clear e1 e2
    go_enter Tryz.func20, Tryz.ntmps20
    go_wp2_with fail
    change Calls _ _ _ (w.alloc (.cells #[.int .i64 0, .string (bs [])] 30)) _
    generalize w.alloc (.cells #[.int .i64 0, .string (bs [])] 30) = w0 at *
    have hlt := HLT.out
    generalize hgg : w.heap.size = g at *
    refine (read_walk s w0).mono ?_
    rintro e w1 ⟨rfl, k1, hsz, r1⟩
    have P1 := HP.out.kp k1 (by simp)
    generalize hrb : w0.heap.size = rb at *
    have hgb : rb ≠ g := by omega
    go_wp2_with fail
    refine (HA.out rb w1 r1).mono ?_
    rintro e w2 ⟨rfl, k2, r2⟩
    have P2 := P1.kp k2 (by simp; omega)
    obtain ⟨c0, c1', f0, f1⟩ := P2.cells
    have P2h := Lib.hid P2
    clear P1 P2
    go_wp2_with fail
    refine (HL.out rb _ (r2.setElse g 0 hgb _)).mono ?_
    rintro e w3 ⟨rfl, k3, r3⟩
    clear c0 c1' f0 f1
    go_wp2_with fail
    refine (HB.out rb _ r3).mono ?_
    rintro e w4 ⟨rfl, k4, r4⟩
    have P4 := ((P2h.out.setT t).kp k3 (by simp; omega)).kp k4 (by simp; omega)
    have b4 : Below g w w4 := by
      have q1 : Below g w w1 := b0.trans (k1.below (by rw [hrb]; omega) (by simp))
      have q2 : Below g w w2 := q1.trans (k2.below (by have := k1.size; omega) (by simp; omega))
      have q3 := q2.setCell (p := ⟨g, 0, none⟩) (Nat.le_refl g) (.int .i64 (t : Nat))
      have q4 : Below g w w3 := q3.trans (k3.below (by have := k2.size; have := k1.size; simp; omega) (by simp; omega))
      exact q4.trans (k4.below (by have := k3.size; have := k2.size; have := k1.size; simp at *; omega) (by simp; omega))
    obtain ⟨c0, c1', f0, f1⟩ := P4.cells
    have P4h := Lib.hid P4
    clear P4 k1 k2 k3 k4 r1 r2 r3 hsz P2h HA HL HB HP b0 HLT hrb
    have r5 := Lib.hid (r4.setElse g 1 hgb (.string (bs bd)))
    have P5 := P4h.out.setB bd
    have b5 := b4.setCell (p := ⟨g, 1, none⟩) (Nat.le_refl g) (.string (bs bd))
    clear r4 b4
    go_wp2_with fail
    generalize w4.setCell ⟨g, 1, none⟩ (.string (bs bd)) = w5 at *
    clear c0 c1' f0 f1 P4h
    obtain ⟨c0, c1', f0, f1⟩ := P5.cells
    have P5h := Lib.hid P5
    clear P5
    refine (HC.out rb _ r5.out).mono ?_
    rintro e w6 ⟨rfl, rfl⟩
    rcases hbad with hc | ⟨rfl, hti⟩
    · have hn : (c3 != 0) = true := by rw [bne_iff_ne]; exact hc
      clear hc
      go_wp2
      have PE := (P5h.out.setT 0).setB []
      refine bodyPost_ret (results_cell_row3 rfl _ _ g _ _ _ _ rfl PE Tryz.underlying30 rfl (by kernel_rfl)) rfl ?_
      exact ⟨rfl, by rw [hgg]; exact (b5.setCell (p := ⟨g, 0, none⟩) (Nat.le_refl g) _).setCell (p := ⟨g, 1, none⟩) (Nat.le_refl g) _⟩
    · rw [hti] at HI
      clear hti
      go_wp2_with fail
      refine (HI.out _).mono ?_
      rintro e w6 ⟨rfl, rfl⟩
      go_wp2
      have PE := (P5h.out.setT 0).setB []
      refine bodyPost_ret (results_cell_row3 rfl _ _ g _ _ _ _ rfl PE Tryz.underlying30 rfl (by kernel_rfl)) rfl ?_
      exact ⟨rfl, by rw [hgg]; exact (b5.setCell (p := ⟨g, 0, none⟩) (Nat.le_refl g) _).setCell (p := ⟨g, 1, none⟩) (Nat.le_refl g) _⟩
end Go.Proofs.YtlpknkfidcojeaaGreatDoor
