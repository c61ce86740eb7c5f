/- The document's New and Feed of frames, walked; texts spoilt. -/
import Derived.Test.YtndinelljmjfaaaDoorFrmF
namespace Go.Proofs.YtndinelljmjfaaaDoor
open Go.ChangeShapes Go.WideShapes Go.ChangeAt Go.RowKit K F12
set_option linter.unusedVariables false

/-- The document's framer in block b. -/
def QF (w : World) (b : Nat) (most : Nat) (s : List UInt8) (d : Bool) (k : Nat) : Prop := w.heap[b]? = some (.cells #[.int .i64 (most : Nat), .string (bs s), .bool d, .int .i64 (k : Nat)] 53 (0, 0))
theorem QF.cells {w : World} {b most : Nat} {s : List UInt8} {d : Bool} {k : Nat} (h : QF w b most s d k) :
    w.cell? ⟨b, 0, none⟩ = some (.int .i64 (most : Nat)) ∧ w.cell? ⟨b, 1, none⟩ = some (.string (bs s)) ∧ w.cell? ⟨b, 2, none⟩ = some (.bool d) ∧ w.cell? ⟨b, 3, none⟩ = some (.int .i64 (k : Nat)) ∧ w.frozen? ⟨b, 1, none⟩ = false ∧ w.frozen? ⟨b, 2, none⟩ = false ∧ w.frozen? ⟨b, 3, none⟩ = false :=
  ⟨cellRow h 0, cellRow h 1, cellRow h 2, cellRow h 3, freeRow h 1, freeRow h 2, freeRow h 3⟩
theorem QF.setS {w : World} {b most : Nat} {s : List UInt8} {d : Bool} {k : Nat} (h : QF w b most s d k) (t : List UInt8) : QF (w.setCell ⟨b, 1, none⟩ (.string (bs t))) b most t d k := by
  have := rowSet h 1 (.string (bs t)); simpa [QF] using this
theorem QF.setD {w : World} {b most : Nat} {s : List UInt8} {d : Bool} {k : Nat} (h : QF w b most s d k) (t : Bool) : QF (w.setCell ⟨b, 2, none⟩ (.bool t)) b most s t k := by
  have := rowSet h 2 (.bool t); simpa [QF] using this
theorem QF.setK {w : World} {b most : Nat} {s : List UInt8} {d : Bool} {k : Nat} (h : QF w b most s d k) (t : Nat) (x : Int) (hx : x = (t : Nat)) : QF (w.setCell ⟨b, 3, none⟩ (.int .i64 x)) b most s d t := by
  subst hx
  have := rowSet h 3 (.int .i64 (t : Nat)); simpa [QF] using this
/-- The same as a state. -/
def QR (w : World) (b : Nat) (st : Fs) : Prop := QF w b st.most st.hold st.s.isNone st.dr
theorem qnew_walk (n : Nat) (h1 : 1 ≤ n) (h2 : n ≤ 65535) (w : World) :
    Calls Tryd.prog 6 #[.int .i64 (n : Nat)] w fun e w' => e = .returned (.tuple #[.pointer (some ⟨w.heap.size, 0, none⟩), .int .i64 0]) ∧ QR w' w.heap.size ⟨n, some [], 0⟩ ∧ Below w.heap.size w w' := by
  have e1 : ¬ ((n : Nat) : Int) < 1 := by omega
  have e2 : ¬ (65535 : Int) < ((n : Nat) : Int) := by omega
  go_enter Tryd.func6, Tryd.ntmps6
  go_wp2
  go_ret2
  exact ⟨rfl, rowNew w _, (Below.refl _ _).alloc (Nat.le_refl _) _⟩
theorem qnew_no (n : Int) (h : n < 1 ∨ 65535 < n) (w : World) :
    Calls Tryd.prog 6 #[.int .i64 n] w fun e w' => e = .returned (.tuple #[.pointer none, .int .i64 1]) ∧ w = w' := by
  by_cases h1 : n < 1
  · clear h
    go_enter Tryd.func6, Tryd.ntmps6
    go_wp2
    go_ret2
    exact ⟨rfl, rfl⟩
  · have h2 : 65535 < n := by omega
    clear h
    go_enter Tryd.func6, Tryd.ntmps6
    go_wp2
    go_ret2
    exact ⟨rfl, rfl⟩
theorem hd_split (most : Nat) : ∀ (s : List UInt8) (n i m k : Nat) (r : List UInt8), hd most s n i = .num m k r → ∃ p, s = p ++ r ∧ p.length + i = k
  | [], _, _, _, _, _, h => by cases h
  | c :: s, n, i, m, k, r, h => by
    unfold hd at h
    split at h
    · injection h with _ h2 h3
      subst h2; subst h3
      exact ⟨[c], rfl, by simp; omega⟩
    · split at h
      · cases h
      · split at h
        · cases h
        · obtain ⟨p, hp, hl⟩ := hd_split most s _ _ m k r h
          exact ⟨c :: p, by rw [hp]; rfl, by simp only [List.length_cons]; omega⟩
theorem hd_drop {most : Nat} {s : List UInt8} {m k : Nat} {r : List UInt8} (h : hd most s 0 0 = .num m k r) : s.drop k = r ∧ s.length = k + r.length := by
  obtain ⟨p, hp, hl⟩ := hd_split most s 0 0 m k r h
  rw [Nat.add_zero] at hl
  subst hl
  rw [hp]
  exact ⟨List.drop_left, by rw [List.length_append]⟩
theorem own_setk {w : World} {B : Nat} {e : TypeId} {n : Nat} {v : Value} {m : Nat} {xs : List Value} (h : w.ownsRow B e n v m xs) {k : Nat} {cs : Array Value} {T : TypeId} {fr : Nat × Nat} (hk : w.heap[k]? = some (.cells cs T fr)) (hT : T ≠ e) (i : Nat) (u : Value) : (w.setCell ⟨k, i, none⟩ u).ownsRow B e n v m xs := by
  refine ⟨h.1, ?_⟩
  rcases h.2 with hn | ⟨g, cap, cur, h1, h2, h3, h4⟩
  · exact .inl hn
  · refine .inr ⟨g, cap, cur, h1, h2, (Below.heap_setCell _ _ _ _ ?_).trans h3, h4⟩
    intro hgk
    have hgk' : g = k := hgk
    rw [hgk', hk] at h3
    injection h3 with h3
    injection h3 with _ h3
    exact hT h3
theorem alloc_in3 (w : World) (o : Obj) : Below w.heap.size w (w.alloc o) := (Below.refl _ _).alloc (Nat.le_refl _) _
theorem kp_grown2 {S : List Nat} {a b c : World} {row : Option Nat} (h : Kp S a b) (k : b.grownBy c row) (hr : ∀ j, row = some j → a.heap.size ≤ j) : Kp S a c :=
  ⟨k.os.trans h.os, k.tape.trans h.tape, k.output.trans h.output, Nat.le_trans h.size k.size, fun i hi hn => (k.block i (Nat.lt_of_lt_of_le hi h.size) (fun e => by have := hr i e.symm; omega)).trans (h.block i hi hn)⟩
theorem own_nek {w : World} {B : Nat} {T : TypeId} {n : Nat} {v : Value} {m : Nat} {xs : List Value} (hown : w.ownsRow B T n v m xs) {k : Nat} {cs : Array Value} {T' : TypeId} {fr : Nat × Nat} (hk : w.heap[k]? = some (.cells cs T' fr)) (hT : T' ≠ T) : some k ≠ v.ownBlock := by
  intro e
  rcases hown.2 with ⟨rfl, _⟩ | ⟨g, cap, cur, rfl, hB, hg, _⟩
  · simp [Value.ownBlock] at e
  · simp [Value.ownBlock] at e
    subst e
    rw [hk] at hg
    injection hg with hg
    injection hg with _ hg
    exact hT hg
theorem fin_q {w wf : World} {b : Nat} {v : Value} {outs : List (List UInt8)} (hb : b < w.heap.size) (O : OwnS wf w.heap.size 9 v outs) :
    ∃ ao cap, v = .slice ao outs.length cap ∧ RdS wf ao outs ∧ (∀ a, ao = some a → w.heap.size ≤ a.block ∧ a.block ∉ [b]) ∧ ((ao = none ∧ outs.length = 0 ∧ cap = 0) ∨ ∃ a, ao = some a) := by
  obtain ⟨ao, cap, hv, -, -, hr, hp⟩ := O.form
  refine ⟨ao, cap, hv, hr, fun a ha => ?_, ?_⟩
  · rcases hp with ⟨h0, _⟩ | ⟨g, h0, hg⟩
    · rw [h0] at ha; cases ha
    · rw [h0] at ha
      injection ha with ha
      subst ha
      refine ⟨hg, ?_⟩
      simp
      omega
  · rcases hp with ⟨h0, h1, h2⟩ | ⟨g, h0, hg⟩
    · exact .inl ⟨h0, h1, h2⟩
    · exact .inr ⟨_, h0⟩
theorem quiet_dr {P : Program} {f : FuncId} {args : Array Value} {w : World} {n : Nat} {v : Value}
    (h : Calls P f args (w.drewN n) fun e w' => e = .returned v ∧ Dr (w.drewN n) w') : Calls P f args (w.drewN n) fun e w'' => e = .returned v ∧ ∃ m, w'' = w.drewN m :=
  h.mono fun e w'' ⟨he, m, hm⟩ => ⟨he, n + m, by rw [hm]; unfold World.drewN; simp [Nat.add_assoc]⟩
theorem fd_mk {w wf : World} {b : Nat} {st st2 : Fs} {c : List UInt8} {outs : List (List UInt8)} {cd : Nat} {v : Value} (hb : b < w.heap.size) (e1 : st.msg c = outs) (e2 : st.code c = cd) (e3 : st.nxt c = st2) (Q : QR wf b st2) (K : Kp [b] w wf) (O : OwnS wf w.heap.size 9 v outs) :
    FdPost (fun w' b' S' st' => QR w' b' st' ∧ S' = [b']) w b [b] st c (.returned (.tuple #[v, .int .i64 (cd : Nat)])) wf := by
  obtain ⟨ao, cap, rfl, R, N, S⟩ := fin_q hb O
  subst e1 e2 e3
  exact ⟨ao, cap, [b], rfl, ⟨Q, rfl⟩, fun x hx => .inl hx, R, N, S, K, O⟩
def QfRel (b most k : Nat) (s0 : List UInt8) (w : World) (n g : Nat) (v7 v9 : Value) (wr : World) : Prop :=
  ∃ (i : Nat) (s : List UInt8) (outs : List (List UInt8)) (v : Value), i + g = n ∧ s.length + i + 1 ≤ n ∧ v9 = .int .i64 (i : Nat) ∧ v = v7 ∧ feed most s0 = (outs ++ (feed most s).1, (feed most s).2) ∧ outs.length + s.length ≤ s0.length ∧ QF wr b most s false k ∧ OwnS wr w.heap.size 9 v outs ∧ Kp [b] w wr
set_option maxRecDepth 100000 in
set_option maxHeartbeats 1500000 in
theorem qfeed_walk (b : Nat) (st : Fs) (c : List UInt8) (hm : st.most ≤ 65535) (hl : st.s = none ∨ st.hold.length + c.length ≤ 1000000) (hdr : st.dr ≤ 1000000) (w : World) (h : QR w b st) :
    Calls Tryd.prog 13 #[.pointer (some ⟨b, 0, none⟩), .string (bs c)] w (FdPost (fun w' b' S' st' => QR w' b' st' ∧ S' = [b']) w b [b] st c) := by
  unfold QR at h
  cases hs : st.s with
  | none =>
    rw [hs] at h
    have e1 : st.msg c = [] ∧ st.code c = 120 ∧ st.nxt c = ⟨st.most, none, st.dr + 1⟩ := by
      unfold Fs.code Fs.msg Fs.nxt; rw [hs]; exact ⟨rfl, rfl, rfl⟩
    obtain ⟨c0, c1, c2, c3, f1, f2, f3⟩ := h.cells
    have HQ := Lib.hid (h.setK (st.dr + 1) (((st.dr : Nat) : Int) + 1) (by omega))
    have hho : st.hold = [] := by unfold Fs.hold; rw [hs]; rfl
    unfold FdPost QR
    rw [e1.1, e1.2.1, e1.2.2]
    simp only [Option.isNone_none] at c2
    rw [hho] at HQ
    clear h hs e1 hl c0 c1 hho
    go_enter Tryd.func13, Tryd.ntmps13
    go_wp2
    go_ret2
    exact ⟨none, 0, [b], rfl, ⟨HQ.out, rfl⟩, fun x hx => .inl hx, .inl rfl, fun a ha => (by cases ha), .inl (by simp), (Kp.refl _ _).set ⟨b, 3, none⟩ (by simp) _, OwnS.nil _ _ _⟩
  | some h0 =>
    rw [hs] at h
    have hho : st.hold = h0 := by unfold Fs.hold; rw [hs]; rfl
    rw [hho] at h hl
    have hl2 : (h0 ++ c).length ≤ 1000000 := by
      rcases hl with hl | hl
      · rw [hs] at hl; cases hl
      · rw [List.length_append]; exact hl
    have e1 : st.msg c = (feed st.most (h0 ++ c)).1 ∧ st.code c = (if (feed st.most (h0 ++ c)).2.isNone then 120 else 0) ∧ st.nxt c = ⟨st.most, (feed st.most (h0 ++ c)).2, st.dr⟩ := by
      unfold Fs.code Fs.msg Fs.nxt; rw [hs]; exact ⟨rfl, rfl, rfl⟩
    have HE := Lib.hid e1
    simp only [Option.isNone_some] at h
    obtain ⟨c0, c1, c2, c3, f1, f2, f3⟩ := h.cells
    have HQ0 := Lib.hid (h.setS (h0 ++ c))
    have hcat : h0.length + c.length ≤ 1000000 := by rw [← List.length_append]; exact hl2
    have HM := Lib.hid hm
    clear h hs e1 hl hho c0 c3 f2 f3
    generalize st.most = most at *
    generalize st.dr = dr at *
    go_enter Tryd.func13, Tryd.ntmps13
    go_wp2_with fail
    have k0 : Kp [b] w (w.setCell ⟨b, 1, none⟩ (.string (bs (h0 ++ c)))) := (Kp.refl _ _).set ⟨b, 1, none⟩ (by simp) _
    have hbl : b < w.heap.size := by
      rcases Nat.lt_or_ge b w.heap.size with h | h
      · exact h
      · exfalso
        rw [World.cell?] at c1
        simp [Array.getElem?_eq_none h] at c1
    have hsl : (h0 ++ c).length = h0.length + c.length := List.length_append
    clear c1 c2 f1
    generalize hs0 : h0 ++ c = s0 at *
    have HS0 := Lib.hid hs0
    clear hs0
    go_loopg [6, 8] (h0.length + c.length + 1) (fun g v6 v8 wr => QfRel b most dr s0 w (h0.length + c.length + 1) g v6 v8 wr)
    case atStart => exact ⟨0, s0, [], _, by omega, by omega, rfl, rfl, by simp, by simp, HQ0.out, OwnS.nil _ _ _, k0⟩
    case round =>
      obtain ⟨i, s, outs, v, hg, hsi, rfl, rfl, hfe, hol, hq, ho, hk⟩ := hrel
      have HFE := Lib.hid hfe
      have HO := Lib.hid ho
      have HK := Lib.hid hk
      have HQ := Lib.hid hq
      obtain ⟨g, rfl⟩ : ∃ g, gk = g + 1 := ⟨gk - 1, by omega⟩
      have e1 : ((i : Nat) : Int) < ((h0.length : Nat) : Int) + ((c.length : Nat) : Int) + 1 := by omega
      have HH := Lib.hid (fun wx => qhead_walk s (by omega) most HM.out wx)
      obtain ⟨c0, c1, c2, c3, f1, f2, f3⟩ := hq.cells
      clear hfe ho hk hq HQ0 k0
      cases hh : F12.hd most s 0 0 with
      | bad =>
        have HF := Lib.hid (show feed most s0 = (outs, none) by rw [HFE.out, feed_bad hh]; simp)
        rw [hh] at HH
        simp only [hdA, hdK] at HH
        obtain ⟨ao, cap, rfl, RX, NX, SX⟩ := fin_q hbl HO.out
        clear hh RX NX SX
        go_wp2_with fail
        go_quiet (first | (go_at_call 28; with_reducible refine quiet_dr (HH.out _)))
        have q2 : QF (wr.drewN nq) b most s false dr := HQ.out
        have o2 : OwnS (wr.drewN nq) w.heap.size 9 (.slice ao outs.length cap) outs := HO.out
        have k2 := HK.out.drewN nq
        clear c0 c1 c2 c3 f1 f2 f3
        generalize wr.drewN nq = w2 at *
        obtain ⟨c0, c1, c2, c3, f1, f2, f3⟩ := q2.cells
        have Q3 := q2.setD true
        have HQ4 := Lib.hid (Q3.setS [])
        have HK4 := Lib.hid ((k2.set ⟨b, 2, none⟩ (by simp) (.bool true)).set ⟨b, 1, none⟩ (by simp) (.string (bs [])))
        have HO4 := Lib.hid (show OwnS ((w2.setCell ⟨b, 2, none⟩ (.bool true)).setCell ⟨b, 1, none⟩ (.string (bs []))) w.heap.size 9 (.slice ao outs.length cap) outs from own_setk (own_setk o2 q2 (by decide) 2 _) Q3 (by decide) 1 _)
        clear q2 Q3 k2 o2
        go_wp2
        go_ret2
        exact fd_mk (st2 := ⟨most, none, dr⟩) (cd := 120) hbl (by rw [HE.out.1, HF.out]) (by rw [HE.out.2.1, HF.out]; rfl) (by rw [HE.out.2.2, HF.out]) HQ4.out HK4.out HO4.out
      | more =>
        have HF := Lib.hid (show feed most s0 = (outs, some s) by rw [HFE.out, feed_more hh]; simp)
        rw [hh] at HH
        simp only [hdA, hdK] at HH
        obtain ⟨ao, cap, rfl, RX, NX, SX⟩ := fin_q hbl HO.out
        clear hh RX NX SX
        go_wp2_with fail
        go_quiet (first | (go_at_call 28; with_reducible refine quiet_dr (HH.out _)))
        have q2 : QF (wr.drewN nq) b most s false dr := HQ.out
        have o2 : OwnS (wr.drewN nq) w.heap.size 9 (.slice ao outs.length cap) outs := HO.out
        have k2 := HK.out.drewN nq
        clear c0 c1 c2 c3 f1 f2 f3
        generalize wr.drewN nq = w2 at *
        obtain ⟨c0, c1, c2, c3, f1, f2, f3⟩ := q2.cells
        have HQ2 := Lib.hid q2
        have HK2 := Lib.hid k2
        have HO2 := Lib.hid o2
        clear q2 k2 o2
        go_wp2
        go_ret2
        exact fd_mk (st2 := ⟨most, some s, dr⟩) (cd := 0) hbl (by rw [HE.out.1, HF.out]) (by rw [HE.out.2.1, HF.out]; rfl) (by rw [HE.out.2.2, HF.out]) HQ2.out HK2.out HO2.out
      | num n k r =>
        obtain ⟨hdk, hsk⟩ := hd_drop hh
        obtain ⟨_, hkp⟩ := hd_rest most s 0 0 n k r hh
        rw [hh] at HH
        simp only [hdA, hdK] at HH
        by_cases hn : n ≤ r.length
        · have hn1 : ¬ ((s.length : Nat) : Int) - ((k : Nat) : Int) < ((n : Nat) : Int) := by omega
          have hn0 : (((n : Nat) : Int) == -2) = false := by rw [beq_eq_false_iff_ne]; omega
          have hn2 : (((n : Nat) : Int) == -1) = false := by rw [beq_eq_false_iff_ne]; omega
          have hkn : k + n ≤ s.length := by omega
          have hfn := feed_num hh hn
          have hol2 := feed_len most _ s (Nat.le_refl _)
          have HF := Lib.hid (show feed most s0 = ((outs ++ [r.take n]) ++ (feed most (r.drop n)).1, (feed most (r.drop n)).2) by rw [HFE.out, hfn]; simp)
          have HD := Lib.hid hdk
          have hll : outs.length + [r.take n].length ≤ 10000000 := by simp; omega
          clear hh hfn hdk hol2
          go_wp2_with fail
          go_quiet (first | (go_at_call 28; with_reducible refine quiet_dr (HH.out _)))
          have q2 : QF (wr.drewN nq) b most s false dr := HQ.out
          have o2 : OwnS (wr.drewN nq) w.heap.size 9 v outs := HO.out
          have k2 := HK.out.drewN nq
          clear c0 c1 c2 c3 f1 f2 f3
          generalize wr.drewN nq = w2 at *
          obtain ⟨c0, c1, c2, c3, f1, f2, f3⟩ := q2.cells
          have a3 := alloc_in3 w2 (.cells #[.string (bs (r.take n))] 9)
          have o3 := o2.below a3
          have s3 : w.heap.size ≤ (w2.alloc (.cells #[.string (bs (r.take n))] 9)).heap.size := (k2.alloc _).size
          have r3 := rds_one w2 (r.take n)
          have hs1 : ∀ wx, (Instr.slice 9 (.string (bs s)) (some (.int .i64 (k : Nat))) (some (.int .i64 ((k : Int) + (n : Nat)))) none).run Tryd.prog wx = .ok (.string (bs (r.take n))) wx := by
            intro wx
            rw [run_slice_string wx 9 _ .i64 .i64 _ _ Tryd.underlying9 (by omega) (by omega) (by rw [bs_size]; omega)]
            rw [show ((k : Nat) : Int).toNat = k by omega, show ((k : Int) + (n : Nat)).toNat = k + n by omega, bs_extract, Nat.add_sub_cancel_left, HD.out]
          have hs2 : ∀ wx, (Instr.slice 9 (.string (bs s)) (some (.int .i64 ((k : Int) + (n : Nat)))) none none).run Tryd.prog wx = .ok (.string (bs (r.drop n))) wx := by
            intro wx
            rw [run_slice_string_l wx 9 _ Tryd.underlying9 .i64 ((k : Int) + (n : Nat)) (by omega) (by rw [bs_size]; omega)]
            rw [show ((k : Int) + (n : Nat)).toNat = k + n by omega, bs_size, bs_extract, ← List.drop_drop, HD.out, List.take_of_length_le (by rw [List.length_drop]; omega)]
          go_wp2_with (at_builtin; refine spreadSL rfl rfl v rfl o3 s3 rfl r3 (.inr ⟨_, rfl⟩) hll ?_)
          intro v5 w5 o5 g5
          have q3 : QF _ b most s false dr := (a3.block b (lt_of_block q2)).trans q2
          have q5 : QF w5 b most s false dr := (g5.block b (lt_of_block q3) (own_nek o3 q3 (by decide))).trans q3
          have k5 := kp_grown2 (k2.alloc _) g5 (fun j hj => (World.ownsRow.lt o3 j hj).1)
          have HQ6 := Lib.hid (q5.setS (r.drop n))
          have HO6 := Lib.hid (show OwnS (w5.setCell ⟨b, 1, none⟩ (.string (bs (r.drop n)))) w.heap.size 9 v5 (outs ++ [r.take n]) from own_setk o5 q5 (by decide) 1 _)
          have HK6 := Lib.hid (k5.set ⟨b, 1, none⟩ (by simp) (.string (bs (r.drop n))))
          clear c0 c1 c2 c3 f1 f2 f3
          obtain ⟨c0, c1, c2, c3, f1, f2, f3⟩ := q5.cells
          clear q2 q3 q5 k2 k5 o2 o3 o5 g5 a3 s3 r3 hs1 hll
          go_wp2
          go_roundg g
          case measure => omega
          case rel => exact ⟨i + 1, r.drop n, outs ++ [r.take n], v5, by omega, by rw [List.length_drop]; omega, by simp, rfl, HF.out, by rw [List.length_append, List.length_drop]; simp; omega, HQ6.out, HO6.out, HK6.out⟩
        · have hn1 : ((s.length : Nat) : Int) - ((k : Nat) : Int) < ((n : Nat) : Int) := by omega
          have hn0 : (((n : Nat) : Int) == -2) = false := by rw [beq_eq_false_iff_ne]; omega
          have hn2 : (((n : Nat) : Int) == -1) = false := by rw [beq_eq_false_iff_ne]; omega
          have HF := Lib.hid (show feed most s0 = (outs, some s) by rw [HFE.out, feed_short hh hn]; simp)
          obtain ⟨ao, cap, rfl, RX, NX, SX⟩ := fin_q hbl HO.out
          clear hn
          clear hh RX NX SX
          go_wp2_with fail
          go_quiet (first | (go_at_call 28; with_reducible refine quiet_dr (HH.out _)))
          have q2 : QF (wr.drewN nq) b most s false dr := HQ.out
          have o2 : OwnS (wr.drewN nq) w.heap.size 9 (.slice ao outs.length cap) outs := HO.out
          have k2 := HK.out.drewN nq
          clear c0 c1 c2 c3 f1 f2 f3
          generalize wr.drewN nq = w2 at *
          obtain ⟨c0, c1, c2, c3, f1, f2, f3⟩ := q2.cells
          have HQ2 := Lib.hid q2
          have HK2 := Lib.hid k2
          have HO2 := Lib.hid o2
          clear q2 k2 o2
          go_wp2
          go_ret2
          exact fd_mk (st2 := ⟨most, some s, dr⟩) (cd := 0) hbl (by rw [HE.out.1, HF.out]) (by rw [HE.out.2.1, HF.out]; rfl) (by rw [HE.out.2.2, HF.out]) HQ2.out HK2.out HO2.out
end Go.Proofs.YtndinelljmjfaaaDoor
