/- The document's Pieces, walked. -/
import Derived.Test.YtmhmipbbbccfgaaGlbF
import Derived.Test.YtmhmipbbbccfgaaGlbW
namespace Go.Proofs.Ytmhmipbbbccfgaa
open Go.ChangeShapes Go.WideShapes Go.ChangeAt Go.RowKit K G13
set_option linter.unusedVariables false

theorem run_pset2 (f : UInt8 → Bool) (w : World) : (Instr.build 57 #[(2, .agg (tabB fun i => f (UInt8.ofNat i)))]).run Try.prog w = .ok (.agg (pcA (.set f))) w := run_pset _ w
/-- What Pieces leaves. -/
def PiecePost (p : List UInt8) (w : World) (e : Ending) (w' : World) : Prop :=
  Below w.heap.size w w' ∧ ((eG p = 0 ∧ ∃ ao cap, e = .returned (.tuple #[.slice ao (lG p).length cap, .int .i64 0]) ∧ RdG w' ao (lG p)) ∨ (eG p ≠ 0 ∧ e = .returned (.tuple #[.slice none 0 0, .int .i64 (eG p : Nat)])))
theorem pieces_nil : pieces [] = some [] := rfl
theorem pieces_any (t : List UInt8) : pieces (42 :: t) = (pieces t).map (Pc.any :: ·) := rfl
theorem pieces_ask (t : List UInt8) : pieces (63 :: t) = (pieces t).map (Pc.set (fun _ => true) :: ·) := rfl
theorem pieces_noset (t : List UInt8) (h : st13 t = none) : pieces (91 :: t) = none := by
  have : pieces (91 :: t) = (match st13 t with | none => none | some (f, r) => (pcs (t.length + 1) r).map (Pc.set f :: ·)) := rfl
  rw [this, h]
theorem pieces_set (t : List UInt8) (f : UInt8 → Bool) (r : List UInt8) (h : st13 t = some (f, r)) : pieces (91 :: t) = (pieces r).map (Pc.set f :: ·) := by
  have e : pieces (91 :: t) = (match st13 t with | none => none | some (f, r) => (pcs (t.length + 1) r).map (Pc.set f :: ·)) := rfl
  have hl := st_len h
  rw [e, h]
  show (pcs (t.length + 1) r).map _ = _
  rw [pcs_more (t.length + 1) (r.length + 1) r (by omega) (by omega)]
  rfl
theorem pieces_bare : pieces [92] = none := rfl
theorem pieces_esc (d : UInt8) (t : List UInt8) : pieces (92 :: d :: t) = (pieces t).map (Pc.one d :: ·) := by
  have e : pieces (92 :: d :: t) = (pcs ((d :: t).length + 1) t).map (Pc.one d :: ·) := rfl
  rw [e, pcs_more ((d :: t).length + 1) (t.length + 1) t (by simp only [List.length_cons]; omega) (by omega)]
  rfl
theorem pieces_own (c : UInt8) (t : List UInt8) (h1 : c ≠ 42) (h2 : c ≠ 63) (h3 : c ≠ 91) (h4 : c ≠ 92) : pieces (c :: t) = (pieces t).map (Pc.one c :: ·) := by
  have e : pieces (c :: t) = (if c = 42 then (pcs (t.length + 1) t).map (Pc.any :: ·)
      else if c = 63 then (pcs (t.length + 1) t).map (Pc.set (fun _ => true) :: ·)
      else if c = 91 then (match st13 t with | none => none | some (f, r) => (pcs (t.length + 1) r).map (Pc.set f :: ·))
      else if c = 92 then (match t with | [] => none | d :: r => (pcs (t.length + 1) r).map (Pc.one d :: ·))
      else (pcs (t.length + 1) t).map (Pc.one c :: ·)) := rfl
  rw [e, if_neg h1, if_neg h2, if_neg h3, if_neg h4]
  rfl
theorem pi_step {p r r' : List UInt8} {l : List Pc} {x : Pc} (h : pieces p = (pieces r).map (l ++ ·)) (h2 : pieces r = (pieces r').map (x :: ·)) : pieces p = (pieces r').map ((l ++ [x]) ++ ·) := by
  rw [h, h2]
  cases pieces r' <;> simp
theorem pi_none {p r : List UInt8} {l : List Pc} (h : pieces p = (pieces r).map (l ++ ·)) (h2 : pieces r = none) (hp : p.length ≤ 256) : eG p = 130 := by
  unfold eG
  rw [if_neg (by omega), h, h2]; rfl
theorem pi_end {p : List UInt8} {l : List Pc} (h : pieces p = (pieces []).map (l ++ ·)) (hp : p.length ≤ 256) : eG p = 0 ∧ lG p = l := by
  unfold eG lG
  rw [if_neg (by omega), h, pieces_nil]
  simp
theorem addr_add (b j : Nat) : (⟨b, 0, none⟩ : Addr).add j = ⟨b, j, none⟩ := by
  by_cases h : j = 0
  · subst h; simp [Addr.add]
  · simp [Addr.add, h]
theorem alloc_in2 (w : World) (o : Obj) : Below w.heap.size w (w.alloc o) := (Below.refl _ _).alloc (Nat.le_refl _) o
/-- An operation that runs to a value. -/
theorem opV {ops : Array Oper} {rest : List Oper} {o : Oper} {a : Act} {Q : Exit → Act → World → Prop} {w w' : World} {v : Value} (hgd : o.guard = none) (s : Sem Value) (k : execOp a.eval o = (do pure (.value (← s)))) (hr : s.run Try.prog w = .ok v w') (h : wpList Try.prog ops Q rest (a.put o.dst v) w') : wpList Try.prog ops Q (o :: rest) a w :=
  wpList_plain hgd fun _ hK => by
    unfold Oper.wp
    rw [k]
    simp only [Sem.run_bind, hr, Result.andThen_ok, Sem.run_pure]
    exact hK _ _ h
theorem bldN {ops : Array Oper} {rest : List Oper} {o : Oper} {a : Act} {Q : Exit → Act → World → Prop} {w : World} {v : Value} {T : TypeId} (hgd : o.guard = none) (ho : o.op = .build T #[]) (hr : (Instr.build T #[]).run Try.prog w = .ok v w) (h : wpList Try.prog ops Q rest (a.put o.dst v) w) : wpList Try.prog ops Q (o :: rest) a w :=
  opV hgd (Instr.build T #[]) (by simp only [execOp, ho]; simp) hr h
theorem bld1 {ops : Array Oper} {rest : List Oper} {o : Oper} {a : Act} {Q : Exit → Act → World → Prop} {w : World} {v u : Value} {T i : Nat} {x : Operand} (hgd : o.guard = none) (ho : o.op = .build T #[(i, x)]) (hx : a.eval x = u) (hr : (Instr.build T #[(i, u)]).run Try.prog w = .ok v w) (h : wpList Try.prog ops Q rest (a.put o.dst v) w) : wpList Try.prog ops Q (o :: rest) a w :=
  opV hgd (Instr.build T #[(i, u)]) (by simp only [execOp, ho]; simp [hx]) hr h
theorem bsl1 {ops : Array Oper} {rest : List Oper} {o : Oper} {a : Act} {Q : Exit → Act → World → Prop} {w w' : World} {v u : Value} {T n i : Nat} {x : Operand} (hgd : o.guard = none) (ho : o.op = .buildSlice T n #[(i, x)]) (hx : a.eval x = u) (hr : (Instr.buildSlice T n #[(i, u)]).run Try.prog w = .ok v w') (h : wpList Try.prog ops Q rest (a.put o.dst v) w') : wpList Try.prog ops Q (o :: rest) a w :=
  opV hgd (Instr.buildSlice T n #[(i, u)]) (by simp only [execOp, ho]; simp [hx]) hr h
/-- One more piece. -/
theorem appG {ops : Array Oper} {rest : List Oper} {o : Oper} {a : Act} {Q : Exit → Act → World → Prop} {W : World} (hgd : o.guard = none) {s x : Operand} (ho : o.op = .call { callee := .builtin .append, args := #[s, x], argTypes := #[27, 27] })
    {B : Nat} {v : Value} {l : List Pc} {p : Pc} (hs : a.eval s = v) (hO : OwnG W B v l) (hx : a.eval x = .slice (some ⟨W.heap.size, 0, none⟩) 1 1) (hn : l.length ≤ 256) (hB : B ≤ W.heap.size)
    (h : ∀ v' w', OwnG w' B v' (l ++ [p]) → (∀ y, Below B y W → Below B y w') → wpList Try.prog ops Q rest (a.put o.dst v') w') : wpList Try.prog ops Q (o :: rest) a (W.alloc (.cells (pcA p) 57)) := by
  obtain ⟨i0, hi, hz0, hz1, hz2⟩ := info_of zinfo
  have hC := rowNew W (.cells (pcA p) 57)
  have hsz := size_alloc1 W (.cells (pcA p) 57)
  refine wpList_append_own _ hgd s x 27 ho B 57 i0 (.agg (Array.replicate 258 (.bool false))) 258 258 Try.underlying27 hi hz0 hz1 hz2 (by simp [Value.cells]) (by decide) v l.length (rowsG l) hs (World.ownsRow.alloc hO _) ⟨W.heap.size, 0, none⟩ 1 1 (pcA p).toList hx (by rw [Array.length_toList, pcA_size]) ?_ ?_ (by unfold maxLen; omega) (by omega) (by rw [hsz]; omega) ?_
  · intro j u hj
    have hc := cellRow hC j
    rw [addr_add, hc]
    simpa using hj
  · have := rowsG_one [p]
    simpa [rowsG] using this
  · intro v' w' hown hg _
    refine h v' w' (OwnG.put hown) fun y b => ?_
    exact (b.alloc hB _).grown hg (by rw [hsz]; omega) (fun k hk => (World.ownsRow.lt hO k hk).1)
/-- The rounds. -/
def PiRel (p : List UInt8) (w : World) (g : Nat) (v0 v4 : Value) (wr : World) : Prop :=
  ∃ r l, r.length ≤ g ∧ v0 = .string (bs r) ∧ OwnG wr w.heap.size v4 l ∧ pieces p = (pieces r).map (l ++ ·) ∧ l.length + r.length ≤ 256 ∧ Below w.heap.size w wr
set_option maxRecDepth 100000 in
set_option maxHeartbeats 400000 in
theorem qpieces_walk (p : List UInt8) (hp : p.length ≤ 140737488355327) (w : World) : Calls Try.prog 8 #[.string (bs p)] w (PiecePost p w) := by
  by_cases h256 : 256 < p.length
  · have he : eG p = 2 := by unfold eG; rw [if_pos h256]
    have HE := Lib.hid he
    have h9 : (256 : Int) < ((p.length : Nat) : Int) := by omega
    clear he h256
    go_enter Try.func8, Try.ntmps8
    go_wp2
    go_ret2
    refine ⟨Below.refl _ _, .inr ⟨by rw [HE.out]; decide, ?_⟩⟩
    rw [HE.out]
    rfl
  have h9 : ¬ (256 : Int) < ((p.length : Nat) : Int) := by omega
  obtain ⟨i0, hi, hz0, hz1, hz2⟩ := info_of zinfo
  have HPA := Lib.hid run_pany
  have HPN := Lib.hid run_pnone
  have HPS := Lib.hid run_pset
  have HSL := Lib.hid run_pslice
  have hlen : p.length ≤ 256 := by omega
  have H0 := Lib.hid (show PiRel p w p.length (.string (bs p)) (.slice none 0 0) w from ⟨p, [], Nat.le_refl _, rfl, OwnG.nil _ _, by cases pieces p <;> simp, by simpa using hlen, Below.refl _ _⟩)
  have HLEN := Lib.hid hlen
  clear hlen hp h256
  go_enter Try.func8, Try.ntmps8
  go_wp2
  go_loopg [0, 4] p.length (fun g v0 v4 wr => PiRel p w g v0 v4 wr)
  case atStart => exact H0.out
  case round =>
    obtain ⟨r, l, hrg, rfl, hown, hpi, hll, hb⟩ := hrel
    clear H0
    cases r with
    | nil =>
      obtain ⟨ao, cap, rfl, hrd⟩ := hown.form
      obtain ⟨e1, e2⟩ := pi_end hpi HLEN.out
      have HX := Lib.hid (And.intro e1 (And.intro e2 (And.intro hrd hb)))
      have hne : ([] : List UInt8).isEmpty = true := rfl
      clear hown hpi hll hrg e1 e2 hrd hb hi hz0 hz1 hz2
      go_wp2
      go_ret2
      obtain ⟨e1, e2, hrd, hb⟩ := HX.out
      refine ⟨hb, .inl ⟨e1, ao, cap, ?_, ?_⟩⟩
      · rw [e2]; rfl
      · rw [e2]; exact hrd
    | cons c t =>
      have hby : byt (c :: t) 0 = c.toNat := rfl
      have hne : (c :: t).isEmpty = false := rfl
      have hpos : 0 < (c :: t).length := by simp
      have htl : (c :: t).tail = t := rfl
      have hlc : (c :: t).length = t.length + 1 := by simp
      rw [hlc] at hll hrg
      have HTL := Lib.hid htl
      have HPI := Lib.hid hpi
      have HB := Lib.hid hb
      have hBs := hb.size
      clear htl hpi hb hi hz0 hz1 hz2
      by_cases c1 : c = 42
      · have hb0 : byt (c :: t) 0 = 42 := by rw [hby, c1]; rfl
        have HST := Lib.hid (show pieces (c :: t) = (pieces t).map (Pc.any :: ·) by rw [c1]; exact pieces_any t)
        clear c1 hby hlc
        generalize c :: t = s at *
        go_wp2_with (first | (guard_target = wpList _ _ _ ({ dst := _, op := .build _ _, type := _, pos := _, after := _, guard := _ } :: _) _ _; refine bld1 rfl rfl rfl (run_pany _) ?_) | (guard_target = wpList _ _ _ ({ dst := _, op := .buildSlice _ _ _, type := _, pos := _, after := _, guard := _ } :: _) _ _; refine bsl1 rfl rfl rfl (run_pslice .any _) ?_) | (at_builtin; refine appG rfl rfl rfl hown rfl (by omega) hBs ?_))
        intro v' w' hown2 hbb
        have HO2 := Lib.hid hown2; have HB2 := Lib.hid (hbb _ HB.out)
        clear hown2 hbb hown
        go_wp2
        go_roundg t.length
        case measure => omega
        case rel =>
          rw [HTL.out]
          exact ⟨t, l ++ [.any], Nat.le_refl _, rfl, HO2.out, pi_step HPI.out HST.out, by simp; omega, HB2.out⟩
      by_cases c2 : c = 63
      · have hb0 : byt (c :: t) 0 = 63 := by rw [hby, c2]; rfl
        have HST := Lib.hid (show pieces (c :: t) = (pieces t).map (Pc.set (fun _ => true) :: ·) by rw [c2]; exact pieces_ask t)
        have z1 := zt1
        rw [rowP_zero] at z1
        have hnb := run_pnone
        have hZs := rowP_size false false (fun _ => false)
        have hst := run_storeCells_new (P := Try.prog) wr 57 _ _ (by rw [sz1, hZs]) rfl (rowP_all false false fun _ => false)
        have HR0 := Lib.hid (show (wr.alloc (.cells (rowP false false fun _ => false) 57)).heap[wr.heap.size]? = some (.cells (rowP false false fun k => decide (k < 0)) 57 (0, 0)) by
          rw [rowP_congr (a := false) (o := false) (g := fun k => decide (k < 0)) (k := fun _ => false) (fun i _ => by simp)]; exact rowNew wr _)
        have HA0 := Lib.hid (alloc_in2 wr (.cells (rowP false false fun _ => false) 57))
        have HO := Lib.hid hown
        clear c1 c2 hby hlc hown
        generalize c :: t = s at *
        generalize (rowP false false fun _ => false) = Z at *
        go_wp2_with (first | (guard_target = wpList _ _ _ ({ dst := _, op := .build _ _, type := _, pos := _, after := _, guard := _ } :: _) _ _; refine bldN rfl rfl (hnb _) ?_))
        clear hst z1 hnb
        rename World => W0
        go_loopg [7] 256 (fun g v7 wx => ∃ i : Nat, i + g = 256 ∧ v7 = .int .i64 i ∧ wx.heap[W0.heap.size]? = some (.cells (rowP false false fun k => decide (k < i)) 57 (0, 0)) ∧ Below W0.heap.size W0 wx)
        case atStart => exact ⟨0, rfl, rfl, HR0.out, HA0.out⟩
        case round =>
          obtain ⟨i, hig, rfl, hrow, hbx⟩ := hrel
          by_cases h4 : i < 256
          · obtain ⟨g2, rfl⟩ : ∃ g2, gk = g2 + 1 := ⟨gk - 1, by omega⟩
            have hz := cellRow hrow (2 + i)
            rw [rowP_2 _ _ _ h4] at hz
            have hf := freeRow hrow (2 + i)
            have hset := rowSet hrow (2 + i) (.bool true)
            rw [rowP_set2 _ _ _ _ _ h4] at hset
            rw [rowP_congr (k := fun k => decide (k < i + 1)) (fun k _ => by
              by_cases h : k = i
              · subst h; simp
              · rw [if_neg h, Bool.eq_iff_iff, decide_eq_true_eq, decide_eq_true_eq]; omega)] at hset
            have HRW := Lib.hid hset; have HBX := Lib.hid (hbx.setCell (p := ⟨W0.heap.size, 2 + i, none⟩) (Nat.le_refl _) (.bool true))
            have h5 : ((i : Nat) : Int) < 256 := by omega
            clear hrow hbx hset
            go_wp2
            go_roundg g2
            case measure => omega
            case rel => exact ⟨i + 1, by omega, rfl, HRW.out, HBX.out⟩
          · obtain rfl : i = 256 := by omega
            rw [rowP_congr (k := fun _ => true) (fun k hk => decide_eq_true hk), pcA_all] at hrow
            have HR := Lib.hid hrow
            have hown2 := HO.out.below hbx
            have hBs2 := Nat.le_trans hBs hbx.size
            have HBX := Lib.hid (HB.out.trans (hbx.mono hBs))
            clear hrow hbx HR0 HA0
            go_wp2_with (first | (guard_target = wpList _ _ _ ({ dst := _, op := .load 57 _, type := _, pos := _, after := _, guard := _ } :: _) _ _; refine wpList_load_row rfl 57 _ rfl W0.heap.size rfl 57 (pcA (.set fun _ => true)) (0, 0) _ HR.out Try.underlying57 rfl (by rw [sz1, pcA_size]) ?_) | (guard_target = wpList _ _ _ ({ dst := _, op := .buildSlice _ _ _, type := _, pos := _, after := _, guard := _ } :: _) _ _; refine bsl1 rfl rfl rfl (run_pslice (.set fun _ => true) _) ?_) | (at_builtin; refine appG rfl rfl rfl hown2 rfl (by omega) hBs2 ?_))
            intro v' w' hown3 hbb
            have HO2 := Lib.hid hown3; have HB2 := Lib.hid (hbb _ HBX.out)
            clear hown3 hbb hown2
            go_wp2
            go_roundg t.length
            case measure => omega
            case rel =>
              rw [HTL.out]
              exact ⟨t, l ++ [.set fun _ => true], Nat.le_refl _, rfl, HO2.out, pi_step HPI.out HST.out, by simp; omega, HB2.out⟩
      by_cases c3 : c = 91
      · have hb0 : byt (c :: t) 0 = 91 := by rw [hby, c3]; rfl
        have hs : ∀ w1, Calls Try.prog 22 #[.string (bs (c :: t).tail)] w1 (SetPost (st13 t) w1) := fun w1 => qset13_walk t (by omega) w1
        have z2 := zt2
        rw [tabB_zero] at z2
        have hts := tabB_size
        cases hx : st13 t with
        | none =>
          rw [hx] at hs
          have HST := Lib.hid (show pieces (c :: t) = none by rw [c3]; exact pieces_noset t hx)
          have HS := Lib.hid hs
          clear c1 c2 c3 hby hlc hx hs hown
          generalize c :: t = s at *
          go_wp2_with fail
          refine (HS.out _).mono ?_
          rintro e w1 ⟨b1, A, rfl⟩
          have hst := run_storeCells_new (P := Try.prog) w1 55 (tabB fun _ => false) (tabB A) (by rw [sz2, tabB_size]) (by rw [tabB_size, tabB_size]) (tabB_all A)
          have HB2 := Lib.hid ((HB.out.trans (b1.mono hBs)).alloc (Nat.le_trans hBs b1.size) (.cells (tabB A) 55))
          clear b1
          go_wp2_with fail
          go_ret2
          have he := pi_none HPI.out HST.out HLEN.out
          refine ⟨HB2.out, .inr ⟨by rw [he]; decide, ?_⟩⟩
          rw [he]
          rfl
        | some x =>
          obtain ⟨f, r⟩ := x
          rw [hx] at hs
          have hrl := st_len hx
          have HST := Lib.hid (show pieces (c :: t) = (pieces r).map (Pc.set f :: ·) by rw [c3]; exact pieces_set t f r hx)
          have HS := Lib.hid hs
          have HO := Lib.hid hown
          clear c1 c2 c3 hby hlc hx hs hown
          generalize c :: t = s at *
          go_wp2_with fail
          refine (HS.out _).mono ?_
          rintro e w1 ⟨b1, rfl⟩
          have hst := run_storeCells_new (P := Try.prog) w1 55 (tabB fun _ => false) (tabB fun i => f (UInt8.ofNat i)) (by rw [sz2, tabB_size]) (by rw [tabB_size, tabB_size]) (tabB_all _)
          have HR := Lib.hid (rowNew w1 (.cells (tabB fun i => f (UInt8.ofNat i)) 55))
          have hBs2 : w.heap.size ≤ (w1.alloc (.cells (tabB fun i => f (UInt8.ofNat i)) 55)).heap.size := by have := b1.size; rw [size_alloc1]; omega
          have HB2 := Lib.hid ((HB.out.trans (b1.mono hBs)).alloc (Nat.le_trans hBs b1.size) (.cells (tabB fun i => f (UInt8.ofNat i)) 55))
          have hown2 := (HO.out.below b1).below (alloc_in2 w1 (.cells (tabB fun i => f (UInt8.ofNat i)) 55))
          clear b1
          go_wp2_with (first | (guard_target = wpList _ _ _ ({ dst := _, op := .load 55 _, type := _, pos := _, after := _, guard := _ } :: _) _ _; refine wpList_load_row rfl 55 _ rfl w1.heap.size rfl 55 (tabB fun i => f (UInt8.ofNat i)) (0, 0) _ HR.out Try.underlying55 rfl (by rw [sz2, tabB_size]) ?_) | (guard_target = wpList _ _ _ ({ dst := _, op := .build _ _, type := _, pos := _, after := _, guard := _ } :: _) _ _; refine bld1 rfl rfl rfl (run_pset2 f _) ?_) | (guard_target = wpList _ _ _ ({ dst := _, op := .buildSlice _ _ _, type := _, pos := _, after := _, guard := _ } :: _) _ _; refine bsl1 rfl rfl rfl (run_pslice (.set f) _) ?_) | (at_builtin; refine appG rfl rfl rfl hown2 rfl (by omega) hBs2 ?_))
          intro v' w' hown3 hbb
          have HO2 := Lib.hid hown3; have HB3 := Lib.hid (hbb _ HB2.out)
          clear hown3 hbb hown2 hst
          go_wp2
          go_roundg r.length
          case measure => omega
          case rel => exact ⟨r, l ++ [.set f], Nat.le_refl _, rfl, HO2.out, pi_step HPI.out HST.out, by simp; omega, HB3.out⟩
      by_cases c4 : c = 92
      · have hb0 : byt (c :: t) 0 = 92 := by rw [hby, c4]; rfl
        cases t with
        | nil =>
          have HST := Lib.hid (show pieces [c] = none by rw [c4]; exact pieces_bare)
          have hte : ([c] : List UInt8).tail.isEmpty = true := rfl
          clear c1 c2 c3 c4 hby hlc hown
          generalize ([c] : List UInt8) = s at *
          go_wp2_with fail
          go_ret2
          have he := pi_none HPI.out HST.out HLEN.out
          refine ⟨HB.out, .inr ⟨by rw [he]; decide, ?_⟩⟩
          rw [he]
          rfl
        | cons d q =>
          have HST := Lib.hid (show pieces (c :: d :: q) = (pieces q).map (Pc.one d :: ·) by rw [c4]; exact pieces_esc d q)
          have hte : (c :: d :: q).tail.isEmpty = false := rfl
          have htp : 0 < (c :: d :: q).tail.length := by simp
          have HTT := Lib.hid (show List.take ((c :: d :: q).length - 1 - 1) (List.drop 2 (c :: d :: q)) = q by simp)
          have htp2 : ((1 : Nat) : Int) ≤ (((c :: d :: q).length - 1 : Nat) : Int) := by simp only [List.length_cons]; omega
          have htp3 : 1 < (c :: d :: q).length := by simp only [List.length_cons]; omega
          have htp4 : (0 : Int) < (((c :: d :: q).length - 1 : Nat) : Int) := by simp only [List.length_cons]; omega
          have ho : ∀ w1, Calls Try.prog 23 #[.int .u8 (byt (c :: d :: q).tail 0 : Nat)] w1 fun e w' => e = .returned (.agg (pcA (.one d))) ∧ Below w1.heap.size w1 w' := fun w1 => by
            have := qone_walk d w1
            rw [pcA_one] at this
            exact this
          have HONE := Lib.hid ho
          have HO := Lib.hid hown
          have hql : (d :: q).length = q.length + 1 := by simp
          rw [hql] at hll hrg
          clear c1 c2 c3 c4 hby hlc hown ho
          generalize c :: d :: q = s at *
          go_wp2_with fail
          refine (HONE.out _).mono ?_
          rintro e w1 ⟨rfl, b1⟩
          have hBs2 := Nat.le_trans hBs b1.size
          have HB2 := Lib.hid (HB.out.trans (b1.mono hBs))
          have hown2 := HO.out.below b1
          clear b1
          go_wp2_with (first | (guard_target = wpList _ _ _ ({ dst := _, op := .buildSlice _ _ _, type := _, pos := _, after := _, guard := _ } :: _) _ _; refine bsl1 rfl rfl rfl (run_pslice (.one d) _) ?_) | (at_builtin; refine appG rfl rfl rfl hown2 rfl (by omega) hBs2 ?_))
          intro v' w' hown3 hbb
          have HO2 := Lib.hid hown3; have HB3 := Lib.hid (hbb _ HB2.out)
          clear hown3 hbb hown2
          go_wp2
          go_roundg q.length
          case measure => omega
          case rel =>
            rw [HTT.out]
            exact ⟨q, l ++ [.one d], Nat.le_refl _, rfl, HO2.out, pi_step HPI.out HST.out, by simp; omega, HB3.out⟩
      · have HST := Lib.hid (show pieces (c :: t) = (pieces t).map (Pc.one c :: ·) from pieces_own c t c1 c2 c3 c4)
        have hcn : ∀ k : Nat, k < 256 → c ≠ UInt8.ofNat k → (((byt (c :: t) 0 : Nat) : Int) == (k : Int)) = false := fun k hk hne => by
          rw [beq_eq_false_iff_ne]
          intro e
          apply hne
          apply UInt8.toNat_inj.1
          rw [UInt8.toNat_ofNat']
          rw [hby] at e
          omega
        have q1 := hcn 42 (by decide) c1
        have q2 := hcn 63 (by decide) c2
        have q3 := hcn 91 (by decide) c3
        have q4 := hcn 92 (by decide) c4
        have ho : ∀ w1, Calls Try.prog 23 #[.int .u8 (byt (c :: t) 0 : Nat)] w1 fun e w' => e = .returned (.agg (pcA (.one c))) ∧ Below w1.heap.size w1 w' := fun w1 => by
          have := qone_walk c w1
          rw [pcA_one] at this
          exact this
        have HONE := Lib.hid ho
        have HO := Lib.hid hown
        clear c1 c2 c3 c4 hby hlc hown ho hcn
        generalize c :: t = s at *
        go_wp2_with fail
        refine (HONE.out _).mono ?_
        rintro e w1 ⟨rfl, b1⟩
        have hBs2 := Nat.le_trans hBs b1.size
        have HB2 := Lib.hid (HB.out.trans (b1.mono hBs))
        have hown2 := HO.out.below b1
        clear b1
        go_wp2_with (first | (guard_target = wpList _ _ _ ({ dst := _, op := .buildSlice _ _ _, type := _, pos := _, after := _, guard := _ } :: _) _ _; refine bsl1 rfl rfl rfl (run_pslice (.one c) _) ?_) | (at_builtin; refine appG rfl rfl rfl hown2 rfl (by omega) hBs2 ?_))
        intro v' w' hown3 hbb
        have HO2 := Lib.hid hown3; have HB3 := Lib.hid (hbb _ HB2.out)
        clear hown3 hbb hown2
        go_wp2
        go_roundg t.length
        case measure => omega
        case rel =>
          rw [HTL.out]
          exact ⟨t, l ++ [.one c], Nat.le_refl _, rfl, HO2.out, pi_step HPI.out HST.out, by simp; omega, HB3.out⟩
end Go.Proofs.Ytmhmipbbbccfgaa
