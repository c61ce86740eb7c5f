/- Texts on the program and on the document, joined: PduM. -/
import Derived.Test.YtlpknkfidcojeaaGreatDoorMa28
import Derived.Test.YtlpknkfidcojeaaGreatDoorMa31
/- The document's Decode of units, where the parts are as they should be. -/
namespace Go.Proofs.YtlpknkfidcojeaaGreatDoor
open Go.ChangeShapes Go.WideShapes Go.ChangeAt Go.RowKit K P1 B5
open D8 (Bd Un lst deB deL deU)
set_option linter.unusedVariables false

theorem deL_one {p : Nat × List UInt8} {x : Bd} : ∀ (a : List (Nat × List UInt8)) (xs : List Bd), deL a = some xs → deB p = some x → deL (a ++ [p]) = some (xs ++ [x])
  | [], xs, h, hx => by
    have h' : some [] = some xs := h
    obtain rfl := Option.some.inj h'
    show (match deB p with | none => none | some x => match deL [] with | none => none | some l => some (x :: l)) = _
    rw [hx]; rfl
  | q :: a, xs, h, hx => by
    have h' : (match deB q with | none => none | some x => match deL a with | none => none | some l => some (x :: l)) = some xs := h
    show (match deB q with | none => none | some x => match deL (a ++ [p]) with | none => none | some l => some (x :: l)) = _
    cases h1 : deB q with
    | none => rw [h1] at h'; cases h'
    | some y =>
      rw [h1] at h'
      cases h2 : deL a with
      | none => rw [h2] at h'; cases h'
      | some l =>
        rw [h2] at h'
        obtain rfl := Option.some.inj h'
        rw [deL_one a l h2 hx]; rfl
theorem deL_not {ps : List (Nat × List UInt8)} {p : Nat × List UInt8} (hp : p ∈ ps) (h : deB p = none) : deL ps = none := by
  cases hd : deL ps with
  | none => rfl
  | some l =>
    obtain ⟨x, hx⟩ := D8.deL_mem ps l hd p hp
    rw [h] at hx; cases hx
theorem deL_len : ∀ (ps : List (Nat × List UInt8)) (l : List Bd), deL ps = some l → l.length = ps.length
  | [], l, h => by
    have h' : some [] = some l := h
    obtain rfl := Option.some.inj h'; rfl
  | q :: a, xs, h => by
    have h' : (match deB q with | none => none | some x => match deL a with | none => none | some l => some (x :: l)) = some xs := h
    cases h1 : deB q with
    | none => rw [h1] at h'; cases h'
    | some y =>
      rw [h1] at h'
      cases h2 : deL a with
      | none => rw [h2] at h'; cases h'
      | some l =>
        rw [h2] at h'
        obtain rfl := Option.some.inj h'
        simp [deL_len a l h2]
theorem wrap64_in (n : Int) : -9223372036854775808 ≤ wrap64 n ∧ wrap64 n ≤ 9223372036854775807 := by
  rw [wrap64_eq]; omega
theorem deB_lim {p : Nat × List UInt8} {x : Bd} (h : deB p = some x) : x.o.length ≤ 1000000 ∧ x.s.length ≤ 1000000 ∧ x.fits := by
  obtain ⟨_, hok, _⟩ := D8.bind_told h
  have h' := hok
  unfold Bd.ok at h'
  rw [Bool.and_eq_true] at h'
  refine ⟨?_, by have := ck_len8 h'.2; omega, ?_⟩
  · obtain ⟨l, hl⟩ := Option.isSome_iff_exists.1 h'.1
    obtain ⟨a1, a2⟩ := (O6.arcs_iff _ _).1 hl
    have q1 := O6.put_len l (O6.isArcs_le a1)
    have q2 := (O6.isArcs_len a1).2
    rw [← a2]; omega
  · have hb : ∀ (k : Int) (b : List UInt8), (V7.rdV k b).2.2 = true → -9223372036854775808 ≤ (V7.rdV k b).1 ∧ (V7.rdV k b).1 ≤ 9223372036854775807 := by
      intro k b hb
      unfold V7.rdV at hb ⊢
      by_cases h2 : k = 2
      · rw [if_pos h2] at hb ⊢
        exact V7.nv_bounds hb
      · rw [if_neg h2] at hb ⊢
        by_cases h65 : k = 65 ∨ k = 66 ∨ k = 67 ∨ k = 70
        · rw [if_pos h65]; exact wrap64_in _
        · rw [if_neg h65]
          by_cases h6 : k = 6
          · rw [if_pos h6]; exact ⟨by omega, by omega⟩
          · rw [if_neg h6]; exact ⟨by omega, by omega⟩
    unfold D8.deB at h
    split at h
    · split at h
      · rename_i hc
        obtain rfl := Option.some.inj h
        have := hc.2.2.2
        unfold V7.deOk at this
        rw [Bool.and_eq_true] at this
        exact hb _ _ this.1
      · cases h
    · cases h
theorem prts_count : ∀ (k c : Nat) (l : List UInt8) (ps : List (Nat × List UInt8)), prts k c l = .ok ps → ps.length ≤ k
  | 0, c, l, ps, h => by
    unfold prts at h
    by_cases hl : l.isEmpty = true
    · rw [if_pos hl] at h; injection h with h; subst h; simp
    · rw [if_neg hl] at h; cases h
  | k + 1, c, l, ps, h => by
    unfold prts at h
    by_cases hl : l.isEmpty = true
    · rw [if_pos hl] at h; injection h with h; subst h; simp
    rw [if_neg hl] at h
    by_cases hx : nxOk l = false
    · rw [if_pos hx] at h; cases h
    rw [if_neg hx] at h
    by_cases hc : c = 4096
    · rw [if_pos hc] at h; cases h
    rw [if_neg hc] at h
    cases hr : prts k (c + 1) (nxR l) with
    | error e2 => rw [hr] at h; cases h
    | ok r =>
      rw [hr] at h
      injection h with h
      subst h
      have := prts_count k (c + 1) (nxR l) r hr
      rw [List.length_cons]; omega
theorem prt_count {c : Nat} {l : List UInt8} {ps : List (Nat × List UInt8)} (h : prt c l = .ok ps) : ps.length ≤ l.length := prts_count _ _ _ _ h
theorem prts_most : ∀ (k c : Nat) (l : List UInt8) (ps : List (Nat × List UInt8)), c ≤ 4096 → prts k c l = .ok ps → ps.length + c ≤ 4096
  | 0, c, l, ps, h4, h => by
    unfold prts at h
    by_cases hl : l.isEmpty = true
    · rw [if_pos hl] at h; injection h with h; subst h; simpa using h4
    · rw [if_neg hl] at h; cases h
  | k + 1, c, l, ps, h4, h => by
    unfold prts at h
    by_cases hl : l.isEmpty = true
    · rw [if_pos hl] at h; injection h with h; subst h; simpa using h4
    rw [if_neg hl] at h
    by_cases hx : nxOk l = false
    · rw [if_pos hx] at h; cases h
    rw [if_neg hx] at h
    by_cases hc : c = 4096
    · rw [if_pos hc] at h; cases h
    rw [if_neg hc] at h
    cases hr : prts k (c + 1) (nxR l) with
    | error e2 => rw [hr] at h; cases h
    | ok r =>
      rw [hr] at h
      injection h with h
      subst h
      have := prts_most k (c + 1) (nxR l) r (by omega) hr
      rw [List.length_cons]; omega
theorem prt_most {l : List UInt8} {ps : List (Nat × List UInt8)} (h : prt 0 l = .ok ps) : ps.length ≤ 4096 := by
  have := prts_most _ _ _ _ (by omega) h; omega
theorem deL_lim (ps : List (Nat × List UInt8)) (l : List Bd) (h : deL ps = some l) : LimP l := by
  induction ps generalizing l with
  | nil =>
    have h' : some [] = some l := h
    obtain rfl := Option.some.inj h'
    intro x hx; cases hx
  | cons q a ih =>
    have h' : (match deB q with | none => none | some x => match deL a with | none => none | some l => some (x :: l)) = some l := h
    cases h1 : deB q with
    | none => rw [h1] at h'; cases h'
    | some y =>
      rw [h1] at h'
      cases h2 : deL a with
      | none => rw [h2] at h'; cases h'
      | some m =>
        rw [h2] at h'
        obtain rfl := Option.some.inj h'
        intro x hx
        rcases List.mem_cons.1 hx with rfl | hx
        · exact deB_lim h1
        · exact ih m h2 x hx
theorem deU_go {t : Int} {b : List UInt8} {p1 p2 p3 p4 : Nat × List UInt8} {qs : List (Nat × List UInt8)} {xs : List Bd} (h : prt 0 b = .ok [p1, p2, p3, p4]) (h1 : p1.1 = 2) (h2 : p2.1 = 2) (h3 : p3.1 = 2) (h4 : p4.1 = 48) (n1 : nOk p1.2 = true) (n2 : nOk p2.2 = true) (n3 : nOk p3.2 = true) (hq : prt 0 p4.2 = .ok qs) (hx : deL qs = some xs) :
    deU t b = if Un.ok ⟨t, nv p1.2, nv p2.2, nv p3.2, xs⟩ then some ⟨t, nv p1.2, nv p2.2, nv p3.2, xs⟩ else none := by
  unfold D8.deU
  simp only [h, h1, h2, h3, h4, n1, n2, n3, hq, hx, and_self, if_true]
theorem deU_noL {t : Int} {b : List UInt8} {p1 p2 p3 p4 : Nat × List UInt8} (h : prt 0 b = .ok [p1, p2, p3, p4]) (hn : ∀ qs xs, prt 0 p4.2 = .ok qs → deL qs = some xs → False) : deU t b = none := by
  cases hd : deU t b with
  | none => rfl
  | some u =>
    obtain ⟨q1, q2, q3, q4, qs, hq, _, hq4, hl, _⟩ := D8.deU_inv hd
    rw [h] at hq
    injection hq with hq
    simp only [List.cons.injEq, and_true] at hq
    obtain ⟨rfl, rfl, rfl, rfl⟩ := hq
    exact (hn qs _ hq4 hl).elim
theorem block_ne {w : World} {B : Nat} {T : TypeId} {n : Nat} {v : Value} {m : Nat} {xs : List Value} (hown : w.ownsRow B T n v m xs) {k : Nat} {cs : Array Value} {T' : TypeId} {fr : Nat × Nat} (hk : w.heap[k]? = some (.cells cs T' fr)) (hT : T' ≠ T) : some k ≠ v.ownBlock := by
  intro e
  rcases hown.2 with ⟨rfl, _⟩ | ⟨g, cap, cur, rfl, _, hg, _⟩
  · simp [Value.ownBlock] at e
  · simp [Value.ownBlock] at e
    subst e
    rw [hk] at hg
    injection hg with hg
    injection hg with _ hg
    exact hT hg
theorem own_set5 {w : World} {B : Nat} {e : TypeId} {n : Nat} {v : Value} {m : Nat} {xs : List Value} (h : w.ownsRow B e n v m xs) {k : Nat} {cs : Array Value} {T : TypeId} (hk : w.heap[k]? = some (.cells cs T (0, 0))) (hT : T ≠ e) (v0 v1 v2 v3 v4 : Value) :
    (((((w.setCell ⟨k, 0, none⟩ v0).setCell ⟨k, 1, none⟩ v1).setCell ⟨k, 2, none⟩ v2).setCell ⟨k, 3, none⟩ v3).setCell ⟨k, 4, none⟩ v4).ownsRow B e n v m xs :=
  own_set (own_set (own_set (own_set (own_set h hk hT 0 v0) (rowSet hk 0 v0) hT 1 v1) (rowSet (rowSet hk 0 v0) 1 v1) hT 2 v2) (rowSet (rowSet (rowSet hk 0 v0) 1 v1) 2 v2) hT 3 v3) (rowSet (rowSet (rowSet (rowSet hk 0 v0) 1 v1) 2 v2) 3 v3) hT 4 v4
theorem grown_keep {w w' : World} {B : Nat} {T : TypeId} {n : Nat} {v : Value} {m : Nat} {xs : List Value} (hown : w.ownsRow B T n v m xs) (hg : w.grownBy w' v.ownBlock) {k : Nat} {cs : Array Value} {T' : TypeId} {fr : Nat × Nat} (hk : w.heap[k]? = some (.cells cs T' fr)) (hT : T' ≠ T) : w'.heap[k]? = some (.cells cs T' fr) :=
  (hg.block k (lt_of_block hk) (block_ne hown hk hT)).trans hk
theorem OwnP.grown {w w' : World} {B B' : Nat} {T P : TypeId} {n : Nat} {v vp : Value} {m : Nat} {xs : List Value} {ps : List (Nat × List UInt8)} (hp : OwnP w B' P vp ps) (hown : w.ownsRow B T n v m xs) (hg : w.grownBy w' v.ownBlock) (hT : P ≠ T) : OwnP w' B' P vp ps := by
  refine ⟨hp.1, ?_⟩
  rcases hp.2 with hn | ⟨g, cap, cur, h1, h2, h3, h4⟩
  · exact .inl hn
  · exact .inr ⟨g, cap, cur, h1, h2, grown_keep hown hg h3 hT, h4⟩
theorem Uq.keep {T : TypeId} {w : World} {b : Nat} {u : Un} {ao : Option Addr} {cap : Nat} (h : Uq T w b u ao cap) {U : Nat} (hne : b ≠ U) (i : Nat) (v : Value) : Uq T (w.setCell ⟨U, i, none⟩ v) b u ao cap := (Below.heap_setCell _ _ _ _ hne).trans h
theorem OwnP.set {w : World} {B : Nat} {P : TypeId} {v : Value} {ps : List (Nat × List UInt8)} (h : OwnP w B P v ps) {k : Nat} {cs : Array Value} {T : TypeId} {fr : Nat × Nat} (hk : w.heap[k]? = some (.cells cs T fr)) (hT : T ≠ P) (i : Nat) (u : Value) : OwnP (w.setCell ⟨k, i, none⟩ u) B P v ps := own_set h hk hT i u
/-- The loop's hold: what has been read so far. -/
def DcRel (qs : List (Nat × List UInt8)) (vk : Value) (t r a i : Int) (R U : Nat) (w : World) (g : Nat) (v : Value) (wr : World) : Prop :=
  ∃ j : Nat, j + g = qs.length ∧ v = .int .i64 (j : Nat) ∧ ∃ xs vb, deL (qs.take j) = some xs ∧ wr.heap[U]? = some (.cells #[.int .i64 t, .int .i64 r, .int .i64 a, .int .i64 i, vb] 31 (0, 0)) ∧ OwnB wr w.heap.size 42 vb xs ∧ Uq 31 wr R nou none 0 ∧ OwnP wr w.heap.size 34 vk qs ∧ Below w.heap.size w wr
set_option maxRecDepth 100000 in
set_option maxHeartbeats 4000000 in
theorem qdecode8_go (t : Int) (b : List UInt8) (hp : b.length ≤ 140737488351232) (w : World) (p1 p2 p3 p4 : Nat × List UInt8) (h : prt 0 b = .ok [p1, p2, p3, p4]) (h1 : p1.1 = 2) (h2 : p2.1 = 2) (h3 : p3.1 = 2) (h4 : p4.1 = 48) :
    Calls Tryz.prog 8 #[.agg #[.int .i64 t, .string (bs b)]] w (DuPost t b w) := by
  have HQ := Lib.hid (fun w1 => qparts_walk b hp w1)
  unfold QaPost at HQ
  have hm := prt_mem _ _ b _ (Nat.le_refl _) h
  have m1 := (hm p1 (by simp)).2
  have m2 := (hm p2 (by simp)).2
  have m3 := (hm p3 (by simp)).2
  have m4 := (hm p4 (by simp)).2
  have HN1 := Lib.hid (fun w1 => qbnumber_walk p1.2 (by omega) w1)
  have HN2 := Lib.hid (fun w1 => qbnumber_walk p2.2 (by omega) w1)
  have HN3 := Lib.hid (fun w1 => qbnumber_walk p3.2 (by omega) w1)
  have HP4 := Lib.hid (fun w1 => qparts_walk p4.2 (by omega) w1)
  unfold QaPost at HP4
  have HNo := Lib.hid (fun (e : deU t b = none) (w' : World) (k : Below w.heap.size w w') => DuPost.no e k)
  have HD1 := Lib.hid (fun hn => deU_tags (t := t) h hn)
  have HD2 := Lib.hid (fun hn => deU_noL (t := t) h hn)
  have HD3 := Lib.hid (fun qs xs n1 n2 n3 hq hx => deU_go (t := t) (qs := qs) (xs := xs) h h1 h2 h3 h4 n1 n2 n3 hq hx)
  obtain ⟨w2, hw2, hq, hpt, bw⟩ := two_blocksU 34 31 w t b
  have HW := Lib.hid hw2
  have HH := Lib.hid h
  obtain ⟨a1, l1⟩ := p1
  obtain ⟨a2, l2⟩ := p2
  obtain ⟨a3, l3⟩ := p3
  obtain ⟨a4, l4⟩ := p4
  simp only [] at *
  subst h1 h2 h3 h4
  clear hw2 h hm
  go_enter Tryz.func8, Tryz.ntmps8
  go_wp2_with fail
  rw [HW.out]
  refine (HQ.out _).mono ?_
  rintro e w1 (⟨c', h', rfl, b1⟩ | ⟨ps', v, h', rfl, ho, b1⟩)
  · have h := HH.out; rw [h'] at h; cases h
  have hh2 := HH.out
  rw [h'] at hh2
  injection hh2 with hh2
  subst hh2
  obtain ⟨ao, cap, rfl, hf⟩ := ho.form
  replace hq := hq.below b1
  replace hpt := hpt.keep b1
  replace bw := bw.trans (b1.mono bw.size)
  clear HQ HW b1 ho h' HH
  rcases hf with h0 | ⟨g, rfl, hg1, hg2, hg⟩
  · simp at h0
  obtain ⟨g0, g1⟩ := hg 0 (by simp)
  obtain ⟨g2, g3⟩ := hg 1 (by simp)
  obtain ⟨g4, g5⟩ := hg 2 (by simp)
  obtain ⟨g6, g7⟩ := hg 3 (by simp)
  simp only [List.getD_cons_zero, List.getD_cons_succ, Nat.zero_mul, Nat.one_mul, Nat.reduceMul, Nat.reduceAdd, Nat.zero_add] at g0 g1 g2 g3 g4 g5 g6 g7
  clear hg
  go_wp2_with fail
  refine (HN1.out _).mono ?_
  rintro e w3 ⟨rfl, rfl⟩
  go_wp2_with fail
  refine (HN2.out _).mono ?_
  rintro e w3 ⟨rfl, rfl⟩
  go_wp2_with fail
  refine (HN3.out _).mono ?_
  rintro e w3 ⟨rfl, rfl⟩
  go_wp2_with fail
  refine (HP4.out _).mono ?_
  rintro e w4 hpost
  have hall : ∃ (qs : List (Nat × List UInt8)) (vk : Value) (e4 : Nat), e = .returned (.tuple #[vk, .int .i64 (e4 : Nat)]) ∧ OwnP w4 w1.heap.size 34 vk qs ∧ Below w1.heap.size w1 w4 ∧ (∀ q ∈ qs, q.2.length ≤ 140737488351232) ∧ qs.length ≤ 4096 ∧ ((e4 = 0 ∧ prt 0 l4 = .ok qs) ∨ ((((e4 : Nat) : Int) != 0) = true ∧ ∃ c, prt 0 l4 = .error c)) := by
    rcases hpost with ⟨c4, hc4, rfl, b4⟩ | ⟨qs, vk, hqs, rfl, hok, b4⟩
    · exact ⟨[], _, c4, rfl, OwnP.nil _ _ _, b4, fun q hq => (by cases hq), (by simp), .inr ⟨by rw [bne_iff_ne]; rcases prt_err hc4 with rfl | rfl <;> decide, c4, hc4⟩⟩
    · exact ⟨qs, vk, 0, rfl, hok, b4, fun q hq => (by have := (prt_mem _ _ l4 _ (Nat.le_refl _) hqs q hq).2; omega), prt_most hqs, .inl ⟨rfl, hqs⟩⟩
  clear hpost
  obtain ⟨qs, vk, e4, rfl, hok, b4, hql, hqn, hE4⟩ := hall
  replace hq := hq.below b4
  replace hpt := hpt.keep b4
  have hszw := bw.size
  replace bw := bw.trans (b4.mono bw.size)
  have hokw := hok.mono (B' := w.heap.size) hszw
  obtain ⟨d0, d1, _, _⟩ := hpt.cells
  have HE4 := Lib.hid hE4
  have HQL := Lib.hid hql
  clear HP4 g0 g1 g2 g3 g4 g5 g6 g7 b4 hok hE4 hql
  obtain ⟨aok, capk, rfl, hfk⟩ := hokw.form
  clear hfk
  obtain ⟨V1, hV1⟩ : ∃ x, nuV l1 = x := ⟨_, rfl⟩
  obtain ⟨V2, hV2⟩ : ∃ x, nuV l2 = x := ⟨_, rfl⟩
  obtain ⟨V3, hV3⟩ : ∃ x, nuV l3 = x := ⟨_, rfl⟩
  have HV := Lib.hid (And.intro hV1 (And.intro hV2 hV3))
  rw [hV1, hV2, hV3]
  clear hV1 hV2 hV3 HN1 HN2 HN3
  have hU := rowNew w4 (.cells #[.int .i64 t, .int .i64 V1, .int .i64 V2, .int .i64 V3, .slice none 0 0] 31)
  have ba := alloc_in w4 (.cells #[.int .i64 t, .int .i64 V1, .int .i64 V2, .int .i64 V3, .slice none 0 0] 31)
  have HST := Lib.hid (show DcRel qs (.slice aok qs.length capk) t V1 V2 V3 (w.heap.size + 1) w4.heap.size w qs.length (.int .i64 (0 : Nat)) (w4.alloc (.cells #[.int .i64 t, .int .i64 V1, .int .i64 V2, .int .i64 V3, .slice none 0 0] 31)) from
    ⟨0, by omega, rfl, [], _, rfl, hU, OwnB.nil _ _ _, hq.below ba, hokw.below ba, bw.trans (ba.mono bw.size)⟩)
  have hbU : w.heap.size ≤ w4.heap.size := bw.size
  have hRU : w.heap.size + 1 ≠ w4.heap.size := Nat.ne_of_lt (lt_of_block hq)
  clear hU ba hq hokw bw
  go_wp2_with fail
  go_loopg [14] qs.length (fun g v wr => DcRel qs (.slice aok qs.length capk) t V1 V2 V3 (w.heap.size + 1) w4.heap.size w g v wr)
  case atStart => exact HST.out
  case round =>
    clear HST
    obtain ⟨j, hj, rfl, xs, vb, hxs, hU, hob, hR, hk, hb⟩ := hrel
    obtain ⟨aob, capb, rfl, hrd⟩ := hob.form
    have y0 : wr.cell? ⟨w4.heap.size, 0, none⟩ = some (.int .i64 t) := cellRow hU 0
    have y1 : wr.cell? ⟨w4.heap.size, 1, none⟩ = some (.int .i64 V1) := cellRow hU 1
    have y2 : wr.cell? ⟨w4.heap.size, 2, none⟩ = some (.int .i64 V2) := cellRow hU 2
    have y3 : wr.cell? ⟨w4.heap.size, 3, none⟩ = some (.int .i64 V3) := cellRow hU 3
    have y4 : wr.cell? ⟨w4.heap.size, 4, none⟩ = some (.slice aob xs.length capb) := cellRow hU 4
    cases gk with
    | zero =>
      obtain rfl : j = qs.length := by omega
      rw [List.take_length] at hxs
      have hxl : xs.length ≤ 4096 := by
        have := deL_len _ _ hxs; omega
      have HXS := Lib.hid hxs
      have HLM := Lib.hid (deL_lim _ _ hxs).lim
      clear hxs hk HQL
      have PX := hR.set nou none 0
      have bb := below_set5 hb (b := w.heap.size + 1) (Nat.le_succ _) (.int .i64 0) (.int .i64 0) (.int .i64 0) (.int .i64 0) (.slice none 0 0)
      obtain ⟨c0, c1, c2, c3, c4⟩ := hR.cells
      obtain ⟨f0, f1, f2, f3, f4⟩ := hR.free
      have e1 : nOk l1 = true → nuE l1 = 0 := fun h => (nu_yes h).2
      have e2 : nOk l2 = true → nuE l2 = 0 := fun h => (nu_yes h).2
      have e3 : nOk l3 = true → nuE l3 = 0 := fun h => (nu_yes h).2
      cases k1 : nOk l1
      · have n1 : (((nuE l1 : Nat) : Int) != 0) = true := by rw [(nu_no k1).2]; rfl
        have HE := Lib.hid (HD1.out (fun hc => by rw [k1] at hc; exact absurd hc.2.2.2.2.1 (by simp)))
        clear e1 e2 e3 k1 hob hrd hR hU hb
        generalize nuE l1 = E1 at *
        go_wp2
        refine bodyPost_ret (results_cell_row2 rfl _ _ (w.heap.size + 1) _ _ _ _ rfl PX Tryz.underlying31 rfl (by kernel_rfl)) rfl ?_
        exact HNo.out HE.out _ bb
      cases k2 : nOk l2
      · have n2 : (((nuE l2 : Nat) : Int) != 0) = true := by rw [(nu_no k2).2]; rfl
        have HE := Lib.hid (HD1.out (fun hc => by rw [k2] at hc; exact absurd hc.2.2.2.2.2.1 (by simp)))
        rw [e1 k1]
        clear e1 e2 e3 k1 k2 hob hrd hR hU hb
        generalize nuE l2 = E2 at *
        go_wp2
        refine bodyPost_ret (results_cell_row2 rfl _ _ (w.heap.size + 1) _ _ _ _ rfl PX Tryz.underlying31 rfl (by kernel_rfl)) rfl ?_
        exact HNo.out HE.out _ bb
      cases k3 : nOk l3
      · have n3 : (((nuE l3 : Nat) : Int) != 0) = true := by rw [(nu_no k3).2]; rfl
        have HE := Lib.hid (HD1.out (fun hc => by rw [k3] at hc; exact absurd hc.2.2.2.2.2.2 (by simp)))
        rw [e1 k1, e2 k2]
        clear e1 e2 e3 k1 k2 k3 hob hrd hR hU hb
        generalize nuE l3 = E3 at *
        go_wp2
        refine bodyPost_ret (results_cell_row2 rfl _ _ (w.heap.size + 1) _ _ _ _ rfl PX Tryz.underlying31 rfl (by kernel_rfl)) rfl ?_
        exact HNo.out HE.out _ bb
      rw [e1 k1, e2 k2, e3 k3]
      rcases HE4.out with ⟨he4, hqs⟩ | ⟨he4, c, hc⟩
      rotate_left
      · have HE := Lib.hid (HD2.out (fun qs' xs' h1 _ => by rw [hc] at h1; cases h1))
        clear e1 e2 e3 k1 k2 k3 hob hrd hR hU hb hc
        go_wp2
        refine bodyPost_ret (results_cell_row2 rfl _ _ (w.heap.size + 1) _ _ _ _ rfl PX Tryz.underlying31 rfl (by kernel_rfl)) rfl ?_
        exact HNo.out HE.out _ bb
      rw [he4]
      have hv := HV.out
      rw [(nu_yes k1).1, (nu_yes k2).1, (nu_yes k3).1] at hv
      obtain ⟨v1, v2, v3⟩ := hv
      have hDU := HD3.out qs xs k1 k2 k3 hqs HXS.out
      rw [v1, v2, v3] at hDU
      have hC := fun w1 (h : RdB w1 aob xs) => qcheck8_walk ⟨t, V1, V2, V3, xs⟩ aob capb (by show xs.length ≤ _; omega) HLM.out w1 h
      simp only [] at hC
      unfold ckU at hC
      clear e1 e2 e3 k1 k2 k3 v1 v2 v3 he4 hqs PX bb c0 c1 c2 c3 c4 f0 f1 f2 f3 f4
      cases hok : Un.ok ⟨t, V1, V2, V3, xs⟩
      · rw [hok] at hC hDU
        have HE := Lib.hid (show deU t b = none by rw [hDU]; rfl)
        have HC := Lib.hid hC
        have HRD := Lib.hid hrd
        clear hC hDU hok hrd hob
        go_wp2_with fail
        refine (HC.out _ HRD.out).mono ?_
        rintro e w5 ⟨rfl, d5⟩
        have hR5 := hR.below d5
        have hb5 := hb.trans (d5.mono hb.size)
        obtain ⟨c0, c1, c2, c3, c4⟩ := hR5.cells
        obtain ⟨f0, f1, f2, f3, f4⟩ := hR5.free
        have PX := hR5.set nou none 0
        have bb := below_set5 hb5 (b := w.heap.size + 1) (Nat.le_succ _) (.int .i64 0) (.int .i64 0) (.int .i64 0) (.int .i64 0) (.slice none 0 0)
        clear hR hR5 hb hb5 d5 hU y0 y1 y2 y3 y4
        go_wp2
        refine bodyPost_ret (results_cell_row2 rfl _ _ (w.heap.size + 1) _ _ _ _ rfl PX Tryz.underlying31 rfl (by kernel_rfl)) rfl ?_
        exact HNo.out HE.out _ bb
      · rw [hok] at hC hDU
        have HE := Lib.hid (du_some (show deU t b = some ⟨t, V1, V2, V3, xs⟩ by rw [hDU]; rfl))
        have HC := Lib.hid hC
        have HRD := Lib.hid hrd
        clear hC hDU hok hrd
        go_wp2_with fail
        refine (HC.out _ HRD.out).mono ?_
        rintro e w5 ⟨rfl, d5⟩
        have hR5 := hR.below d5
        have ho5 := hob.below d5
        have hU5 := (d5.block _ (lt_of_block hU)).trans hU
        have hb5 := hb.trans (d5.mono hb.size)
        obtain ⟨c0, c1, c2, c3, c4⟩ := hR5.cells
        obtain ⟨f0, f1, f2, f3, f4⟩ := hR5.free
        have z0 : w5.cell? ⟨w4.heap.size, 0, none⟩ = some (.int .i64 t) := cellRow hU5 0
        have z1 : w5.cell? ⟨w4.heap.size, 1, none⟩ = some (.int .i64 V1) := cellRow hU5 1
        have z2 : w5.cell? ⟨w4.heap.size, 2, none⟩ = some (.int .i64 V2) := cellRow hU5 2
        have z3 : w5.cell? ⟨w4.heap.size, 3, none⟩ = some (.int .i64 V3) := cellRow hU5 3
        have z4 : w5.cell? ⟨w4.heap.size, 4, none⟩ = some (.slice aob xs.length capb) := cellRow hU5 4
        have PX := hR5.set ⟨t, V1, V2, V3, xs⟩ aob capb
        have bb := below_set5 hb5 (b := w.heap.size + 1) (Nat.le_succ _) (.int .i64 t) (.int .i64 V1) (.int .i64 V2) (.int .i64 V3) (.slice aob xs.length capb)
        have HO := Lib.hid (own_set5 ho5 hR5 (by decide) (.int .i64 t) (.int .i64 V1) (.int .i64 V2) (.int .i64 V3) (.slice aob xs.length capb))
        simp only [] at PX
        clear hR hR5 hb hb5 d5 hU hU5 ho5 hob y0 y1 y2 y3 y4
        go_wp2
        refine bodyPost_ret (results_cell_row2 rfl _ _ (w.heap.size + 1) _ _ _ _ rfl PX Tryz.underlying31 rfl (by kernel_rfl)) rfl ?_
        obtain ⟨ao9, cap9, h9, r9⟩ := OwnB.form HO.out
        simp only [Value.slice.injEq, true_and] at h9
        obtain ⟨rfl, rfl⟩ := h9
        exact ⟨aob, capb, by rw [HE.out.1, HE.out.2]; rfl, by rw [HE.out.1]; exact r9, bb⟩
    | succ g =>
      have hlt : j < qs.length := by omega
      obtain ⟨ao2, cap2, hv2, hf2⟩ := hk.form
      simp only [Value.slice.injEq, true_and] at hv2
      obtain ⟨rfl, rfl⟩ := hv2
      rcases hf2 with h0 | ⟨gk2, rfl, hgB, hgl, hgc⟩
      · omega
      obtain ⟨e0, e1⟩ := hgc j hlt
      clear hgc
      have hmem : qs.getD j (0, []) ∈ qs := by
        rw [List.getD_eq_getElem?_getD, List.getElem?_eq_getElem hlt]; exact List.getElem_mem hlt
      have HSN := Lib.hid (fun (x : Bd) (hx : deB (qs.getD j (0, [])) = some x) => (show deL (qs.take (j + 1)) = some (xs ++ [x]) by
        rw [List.take_succ_eq_append_getElem hlt]
        refine deL_one _ _ hxs ?_
        rw [List.getD_eq_getElem?_getD, List.getElem?_eq_getElem hlt] at hx
        exact hx))
      have HNN := Lib.hid (fun (hx : deB (qs.getD j (0, [])) = none) => HD2.out (fun qs' xs' h1 h2 => by
        rcases HE4.out with ⟨_, h⟩ | ⟨_, c, h⟩
        · rw [h] at h1
          injection h1 with h1
          subst h1
          rw [deL_not hmem hx] at h2; cases h2
        · rw [h] at h1; cases h1))
      have hqlen := HQL.out _ hmem
      obtain ⟨q, hqe⟩ : ∃ q, qs.getD j (0, []) = q := ⟨_, rfl⟩
      rw [hqe] at e0 e1 HSN HNN hqlen
      clear hmem hqe
      obtain ⟨q1, q2⟩ := q
      simp only [] at e0 e1 hqlen
      have HB := Lib.hid (fun w1 => qbind_walk q1 q2 hqlen w1)
      unfold BiPost at HB
      have hxl : xs.length ≤ 4096 := by
        have := deL_len _ _ hxs
        rw [List.length_take] at this; omega
      cases hd : deB (q1, q2) with
      | none =>
        have HE := Lib.hid (HNN.out hd)
        rw [hd] at HB
        clear HSN HNN hd hob hrd hxs hgB
        go_wp2_with fail
        refine (HB.out _).mono ?_
        rintro e w5 ⟨x, rfl, _, d5⟩
        replace hR := (hR.below d5).below (alloc_in w5 (.cells #[.string (bs x.o), .int .i64 x.k, .int .i64 x.n, .string (bs x.s)] 42))
        have hb5 := hb.trans (d5.mono hb.size)
        have hb6 := hb5.alloc hb5.size (.cells #[.string (bs x.o), .int .i64 x.k, .int .i64 x.n, .string (bs x.s)] 42)
        obtain ⟨c0, c1, c2, c3, c4⟩ := hR.cells
        obtain ⟨f0, f1, f2, f3, f4⟩ := hR.free
        have PX := hR.set nou none 0
        have bb := below_set5 hb6 (b := w.heap.size + 1) (Nat.le_succ _) (.int .i64 0) (.int .i64 0) (.int .i64 0) (.int .i64 0) (.slice none 0 0)
        clear hR hb hb5 hb6 hU hk d5
        go_wp2
        refine bodyPost_ret (results_cell_row2 rfl _ _ (w.heap.size + 1) _ _ _ _ rfl PX Tryz.underlying31 rfl (by kernel_rfl)) rfl ?_
        exact HNo.out HE.out _ bb
      | some y =>
        have HS := Lib.hid (HSN.out y hd)
        rw [hd] at HB
        clear HSN HNN hd hrd hxs hgB
        obtain ⟨i0, hi, hz0, hz1, hz2⟩ := bind_parts
        go_wp2_with fail
        refine (HB.out _).mono ?_
        rintro e w5 ⟨x, rfl, hxy, d5⟩
        obtain rfl := hxy y rfl
        clear hxy HB y0 y1 y2 y3 y4
        have a5 := alloc_in w5 (.cells #[.string (bs y.o), .int .i64 y.k, .int .i64 y.n, .string (bs y.s)] 42)
        have hx5 := Bq.new w5 y
        have hb5 := hb.trans (d5.mono hb.size)
        have hsz5 : w.heap.size ≤ w5.heap.size := hb5.size
        have hU5 := ((a5.block _ (lt_of_block ((d5.block _ (lt_of_block hU)).trans hU))).trans ((d5.block _ (lt_of_block hU)).trans hU))
        have hR5 := (hR.below d5).below a5
        have hk5 := (hk.below d5).below a5
        have ho5 := (hob.below d5).below a5
        have hb6 := hb5.trans (a5.mono hb5.size)
        have y4 : (w5.alloc (.cells #[.string (bs y.o), .int .i64 y.k, .int .i64 y.n, .string (bs y.s)] 42)).cell? ⟨w4.heap.size, 4, none⟩ = some (.slice aob xs.length capb) := cellRow hU5 4
        obtain ⟨x0, x1, x2, x3⟩ := hx5.cells
        clear hU hR hk hob hb d5 a5 hb5 e0 e1
        go_wp2_with (at_builtin; refine wpList_append_own _ rfl _ _ 23 rfl w.heap.size 42 i0 (.agg #[.string .empty, .int .i64 0, .int .i64 0, .string .empty]) 4 48 Tryz.underlying23 hi hz0 hz1 hz2 rfl (by decide) _ _ _ rfl (World.ownsRow.alloc ho5 _) _ 1 1 (cellsB y) rfl rfl ?c1 ?c2 ?c3 ?c4 ?c5 ?_)
        case c1 =>
          have hc1 := (Bq.new (w5.alloc (.cells #[.string (bs y.o), .int .i64 y.k, .int .i64 y.n, .string (bs y.s)] 42)) y).each
          rw [show (w5.alloc (.cells #[.string (bs y.o), .int .i64 y.k, .int .i64 y.n, .string (bs y.s)] 42)).heap.size = w5.heap.size + 1 by simp] at hc1
          exact hc1
        case c2 => exact one_cell y
        case c3 => unfold maxLen; omega
        case c4 => omega
        case c5 => simp; omega
        intro v7 w7 hown hgrow _
        have a6 := alloc_in (w5.alloc (.cells #[.string (bs y.o), .int .i64 y.k, .int .i64 y.n, .string (bs y.s)] 42)) (.cells #[.string (bs y.o), .int .i64 y.k, .int .i64 y.n, .string (bs y.s)] 42)
        have hb7 := (hb6.alloc hb6.size (.cells #[.string (bs y.o), .int .i64 y.k, .int .i64 y.n, .string (bs y.s)] 42)).grown hgrow (by simp; omega) (fun k hk => (World.ownsRow.lt ho5 k hk).1)
        have ho6 := ho5.below a6
        have hU7 := grown_keep ho6 hgrow ((a6.block _ (lt_of_block hU5)).trans hU5) (by decide)
        have hR7 := grown_keep ho6 hgrow (hR5.below a6) (by decide)
        have hk7 := OwnP.grown (hk5.below a6) ho6 hgrow (by decide)
        have HO := Lib.hid (OwnB.put hown)
        obtain ⟨ao7, cap7, hv7, _⟩ := OwnB.form HO.out
        rw [show (xs ++ [y]).length = xs.length + 1 by simp] at hv7
        subst hv7
        have y4' : w7.cell? ⟨w4.heap.size, 4, none⟩ = some (.slice aob xs.length capb) := cellRow hU7 4
        have f4' : w7.frozen? ⟨w4.heap.size, 4, none⟩ = false := freeRow hU7 4
        have hU8 := rowSet hU7 4 (.slice ao7 (xs.length + 1) cap7)
        have ho8 := own_set HO.out hU7 (by decide) 4 (.slice ao7 (xs.length + 1) cap7)
        have hR8 := Uq.keep (T := 31) hR7 (U := w4.heap.size) hRU 4 (.slice ao7 (xs.length + 1) cap7)
        have hk8 := OwnP.set hk7 hU7 (by decide) 4 (.slice ao7 (xs.length + 1) cap7)
        have hb8 := hb7.setCell (p := ⟨w4.heap.size, 4, none⟩) hbU (.slice ao7 (xs.length + 1) cap7)
        clear hown hgrow ho5 ho6 hb6 hb7 hU5 hU7 hR5 hR7 hk5 hk7 hx5 a6 x0 x1 x2 x3 y4
        have HU8 := Lib.hid hU8
        have HK8 := Lib.hid hk8
        have HR8 := Lib.hid hR8
        have HO8 := Lib.hid ho8
        clear hU8 hk8 hR8 ho8
        go_wp2
        go_roundg g
        case measure => omega
        case rel => exact ⟨j + 1, by omega, by simp, xs ++ [y], _, HS.out, HU8.out, HO8.out, HR8.out, HK8.out, hb8⟩
end Go.Proofs.YtlpknkfidcojeaaGreatDoor
