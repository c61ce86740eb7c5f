/- Texts on the program and on the document, joined: Rwa, PaqH. -/
import Derived.Test.YtaeglmgpoboihaaGreatDoorMa19
import Derived.Test.YtaeglmgpoboihaaGreatDoorMa12
/- 'append(a, b...)' of rows: a is a list that the call made, b is read wherever it lies. Of no program. -/
namespace Go.Proofs.YtaeglmgpoboihaaGreatDoor
open Go.ChangeShapes Go.WideShapes Go.ChangeAt Go.RowKit K
set_option linter.unusedVariables false
set_option linter.unusedSimpArgs false
section
variable {P : Program}
theorem r0_each {W : World} {c : Nat} {ad : Addr} {ys : List (List Value)} (h : RdR0 W c (some ad) ys) (hr : RowsC c ys) (hc : 0 < c) : ∀ j u, ys.flatten[j]? = some u → W.cell? (ad.add j) = some u := by
  intro j u hj
  have hlt : j < ys.flatten.length := by
    rcases Nat.lt_or_ge j ys.flatten.length with h | h
    · exact h
    · rw [List.getElem?_eq_none h] at hj; cases hj
  rw [flat_len hr] at hlt
  rcases h with h | ⟨g, o, ha, hg, hcl⟩
  · rw [h, Nat.zero_mul] at hlt; omega
  · injection ha with ha
    subst ha
    have hi : j / c < ys.length := Nat.div_lt_of_lt_mul (by rw [Nat.mul_comm]; exact hlt)
    have hm : j % c < c := Nat.mod_lt _ hc
    have hj2 : j / c * c + j % c = j := by rw [Nat.mul_comm]; exact Nat.div_add_mod j c
    have hg2 := flat_get (j / c) (j % c) hr hi hm
    rw [hj2] at hg2
    have hadd : (⟨g, o, none⟩ : Addr).add j = ⟨g, o + j, none⟩ := by
      by_cases hj0 : j = 0
      · subst hj0; simp [Addr.add]
      · simp [Addr.add, hj0]
    have := hcl (j / c) hi (j % c) hm
    rw [Nat.add_assoc, hj2] at this
    rw [hadd, this, ← hg2, hj]
/-- All of b behind a. -/
theorem appRwAll {Q : Exit → Act → World → Prop} {o : Oper} {a : Act} {K : Act → World → Prop} {W : World} {s x : Operand} {TS T : TypeId} {c bytes : Nat} {z : Value} (ho : o.op = .call { callee := .builtin .append, args := #[s, x], argTypes := #[TS, TS] }) (hu : P.underlying TS = some (.slice T))
    (hi : (P.info? T).map (fun i => (i.zero, i.size, i.bytes)) = some (some z, c, bytes)) (hz : z.cells.size = c) (hc : 0 < c) (v : Value) (hs : a.eval s = v) {B : Nat} {rows : List (List Value)} (hO : OwnR W B T c v rows) {ao : Option Addr} {cap : Nat} {ys : List (List Value)}
    (hx : a.eval x = .slice ao ys.length cap) (hr : RdR0 W c ao ys) (hy : RowsC c ys) (hsh : (ao = none ∧ ys.length = 0 ∧ cap = 0) ∨ ∃ a, ao = some a) (h1 : ∀ r ∈ ys, ∀ u ∈ r, u.oneCell' = true) (hn : rows.length + ys.length ≤ 1000000) (hby : bytes ≤ 1000) (hB : B ≤ W.heap.size)
    (h : ∀ v' w', OwnR w' B T c v' (rows ++ ys) → W.grownBy w' v.ownBlock → K (a.put o.dst v') w') : o.wp P a W K Q := by
  obtain ⟨i0, hi0, hz0, hz1, hz2⟩ := info_of hi
  have hyr : RowsC c (rows ++ ys) := fun r hr => by
    rcases List.mem_append.1 hr with hr | hr
    · exact hO.2 r hr
    · exact hy r hr
  rcases hsh with ⟨rfl, h0, rfl⟩ | ⟨ad, rfl⟩
  · have hys : ys = [] := List.length_eq_zero_iff.1 h0
    subst hys
    have hrun := run_append_owned_none (P := P) (w := W) B TS o.type T i0 c hu hi0 _ _ _ hO.1
    unfold Oper.wp
    simp [execOp, ho, resolve, invoke, builtin, hs, hx, hrun, Result.andThen]
    exact h _ _ (by simpa using hO) ⟨rfl, rfl, rfl, Nat.le_refl _, fun _ _ _ => rfl⟩
  · refine wp_append_own W s x TS ho B T i0 z c bytes hu hi0 hz0 hz1 hz2 hz hc v rows.length rows.flatten hs hO.1 ad ys.length cap ys.flatten hx (flat_len hy) (r0_each hr hy hc) ?_ (by unfold maxLen; omega) ?_ hB ?_
    · intro u hu
      obtain ⟨r, hr, hu⟩ := List.mem_flatten.1 hu
      exact h1 r hr u hu
    · have : (rows.length + ys.length) * bytes ≤ 1000000 * 1000 := Nat.mul_le_mul hn hby
      omega
    · intro v' w' hown hg _
      refine h v' w' ⟨?_, hyr⟩ hg
      rw [List.length_append, List.flatten_append]
      exact hown
/-- An empty list that is not nil. -/
theorem own_empty (w : World) (B : Nat) (T : TypeId) (c : Nat) (hB : B ≤ w.heap.size) : OwnR (w.alloc (.cells #[] T)) B T c (.slice (some ⟨w.heap.size, 0, none⟩) 0 0) [] :=
  ⟨World.ownsRow_made w #[] 0 hB (Nat.zero_le _) (by simp), fun r hr => by simp at hr⟩
theorem flat_set {c : Nat} (j : Nat) (u : Value) : ∀ {rows : List (List Value)} (i : Nat), RowsC c rows → i < rows.length → j < c → (rows.set i ((rows.getD i []).set j u)).flatten = rows.flatten.set (i * c + j) u
  | [], i, _, h, _ => by simp at h
  | r :: rs, 0, hc, _, hj => by
    have hr := hc r (by simp)
    show (r.set j u :: rs).flatten = _
    rw [List.flatten_cons, List.flatten_cons, Nat.zero_mul, Nat.zero_add, List.set_append_left _ _ (by rw [hr]; exact hj)]
  | r :: rs, i + 1, hc, h, hj => by
    have hr := hc r (by simp)
    have ih := flat_set j u (rows := rs) i (fun x hx => hc x (by simp [hx])) (by simpa using h) hj
    show (r :: rs.set i ((rs.getD i []).set j u)).flatten = _
    rw [List.flatten_cons, List.flatten_cons, ih, List.set_append_right _ _ (by rw [hr, Nat.add_mul]; omega), hr, show (i + 1) * c + j - c = i * c + j by rw [Nat.add_mul]; omega]
/-- One cell of such a list is set. -/
theorem own_setAt {w : World} {B : Nat} {T : TypeId} {c g : Nat} {n cap : Nat} {rows : List (List Value)} (h : OwnR w B T c (.slice (some ⟨g, 0, none⟩) n cap) rows) {i j : Nat} (hi : i < rows.length) (hj : j < c) (u : Value) :
    OwnR (w.setCell ⟨g, i * c + j, none⟩ u) B T c (.slice (some ⟨g, 0, none⟩) n cap) (rows.set i ((rows.getD i []).set j u)) := by
  have hrl : (rows.getD i []).length = c := by
    rw [List.getD_eq_getElem?_getD, List.getElem?_eq_getElem hi]
    exact h.2 _ (List.getElem_mem hi)
  refine ⟨⟨?_, ?_⟩, fun r hr => ?_⟩
  · rw [flat_set j u i h.2 hi hj, List.length_set, List.length_set]
    exact h.1.1
  · rcases h.1.2 with ⟨hv, -⟩ | ⟨g', cap', cur, hv, hB, hh, hle, hm, hs, ht⟩
    · cases hv
    · injection hv with e1 e2 e3
      injection e1 with e1
      injection e1 with e1
      subst e1 e2 e3
      right
      refine ⟨g, cap, cur.setIfInBounds (i * c + j) u, by rw [List.length_set], hB, rowSet hh (i * c + j) u, by rw [List.length_set]; exact hle, hm, by rw [Array.size_setIfInBounds]; exact hs, ?_⟩
      rw [flat_set j u i h.2 hi hj, ← ht, Array.toList_setIfInBounds, List.length_set, List.take_set]
  · rcases List.mem_or_eq_of_mem_set hr with hr | rfl
    · exact h.2 r hr
    · rw [List.length_set]; exact hrl
end
end Go.Proofs.YtaeglmgpoboihaaGreatDoor
/- The program's reader of rules: set, walked (its drawn region by hand, three ways). gen_paqh.py writes it. -/
namespace Go.Proofs.YtaeglmgpoboihaaGreatDoor
open Go.ChangeShapes Go.WideShapes Go.ChangeAt Go.RowKit K L15 S3
open L14 (Tk)
set_option linter.unusedVariables false
namespace PQ
theorem plistP_walk2 (b : Nat) (T : List Tk) (ao : Option Addr) (cap last : Nat) (s : Pi) (w : World) (h : JnR w b T ao cap last s) :
    Calls Tryz.prog 75 #[.func (Fn.func 76) #[.pointer (some ⟨b, 0, none⟩)] #[], .func (Fn.func 74) #[.pointer (some ⟨b, 0, none⟩)] #[]] w fun e w' => ∃ v, e = .returned v ∧ JnP w b T ao cap last (pieces T last (T.length + 1) s).2 w' ∧ OwnR w' w.heap.size 50 3 v ((pieces T last (T.length + 1) s).1.map pcRow) :=
  (plistP_walk b T ao cap last s w h).mono fun e w' ⟨v, h1, h2, h3⟩ => ⟨v, h1, h3, h2⟩
theorem own_lit {w : World} {km B c : Nat} {T : TypeId} {cs : Array Value} {row : List Value} (h : w.heap[km]? = some (.cells cs T (0, 0))) (hcs : cs.toList = row) (hrow : row.length = c) (hB : B ≤ km) : OwnR w B T c (.slice (some ⟨km, 0, none⟩) 1 1) [row] := by
  subst hcs
  refine ⟨⟨by simp [hrow], .inr ⟨km, 1, cs, rfl, hB, h, Nat.le_refl _, by decide, by rw [← hrow]; simp, ?_⟩⟩, fun r hr => by rw [List.mem_singleton.1 hr]; exact hrow⟩
  simp only [List.length_singleton, List.flatten_cons, List.flatten_nil, List.append_nil, ← hrow, Nat.one_mul]
  exact List.take_length
/-- A set, but for its end. -/
def set1 (T : List Tk) (last : Nat) (s : Pi) : St × Pi :=
  (⟨(take T last 1 [] s).1, (piece T last (sign T last [61] (take T last 1 [] s).2)).1 :: (pieces T last (T.length + 1) (piece T last (sign T last [61] (take T last 1 [] s).2)).2).1⟩, (pieces T last (T.length + 1) (piece T last (sign T last [61] (take T last 1 [] s).2)).2).2)
theorem set1_is (T : List Tk) (last : Nat) (s : Pi) : L15.set T last s = ((set1 T last s).1, sign T last [59] (set1 T last s).2) := rfl
set_option maxRecDepth 100000 in
set_option maxHeartbeats 4000000 in
theorem pset_walk (b : Nat) (T : List Tk) (ao : Option Addr) (cap last : Nat) (s : Pi) (w : World) (h : JnR w b T ao cap last s) :
    Calls Tryz.prog 52 #[.pointer (some ⟨b, 0, none⟩)] w fun e w' => ∃ po pc, e = .returned (.agg #[.string (bs (set1 T last s).1.n), .slice po (set1 T last s).1.ps.length pc]) ∧ RdRw w' 50 3 po ((set1 T last s).1.ps.map pcRow) ∧ JnP w b T ao cap last (set1 T last s).2 w' := by
  have hlt := h.lt
  have a0 : Below w.heap.size w (w.alloc (.cells #[.string { data := #[] }, .slice none 0 0] 53)) := (Below.refl _ _).alloc (Nat.le_refl _) _
  have Rr0 := rowNew w (.cells #[.string { data := #[] }, .slice none 0 0] 53)
  have h0 := h.below a0
  have P0 : JnP w b T ao cap last s (w.alloc (.cells #[.string { data := #[] }, .slice none 0 0] 53)) := ⟨h0, Kp.ofBelow a0 [b]⟩
  obtain ⟨w0, hw0⟩ : ∃ w0, w.alloc (.cells #[.string { data := #[] }, .slice none 0 0] 53) = w0 := ⟨_, rfl⟩
  rw [hw0] at a0 Rr0 h0 P0
  have HW0 := Lib.hid hw0
  have Nr : w.heap.size ≠ b := by omega
  have Lr : w.heap.size ≤ w.heap.size := Nat.le_refl _
  have hTL := h.few.1
  have HX := Lib.hid (show set1 T last s = (⟨(take T last 1 [] s).1, (piece T last (sign T last [61] (take T last 1 [] s).2)).1 :: (pieces T last (T.length + 1) (piece T last (sign T last [61] (take T last 1 [] s).2)).2).1⟩, (pieces T last (T.length + 1) (piece T last (sign T last [61] (take T last 1 [] s).2)).2).2) from rfl)
  have H1 := Lib.hid (fun w1 h1 => ptext_walk b T ao cap last s 1 w1 h1)
  have H2 := Lib.hid (fun w1 h1 => psign_walk b T ao cap last (take T last 1 [] s).2 61 (by decide) w1 h1)
  have H3 := Lib.hid (fun w1 h1 => ppiece_walk b T ao cap last (sign T last [61] (take T last 1 [] s).2) w1 h1)
  have HL := Lib.hid (fun w1 h1 => plistP_walk2 b T ao cap last (piece T last (sign T last [61] (take T last 1 [] s).2)).2 w1 h1)
  have hlen := pieces_len T last (T.length + 1) (piece T last (sign T last [61] (take T last 1 [] s).2)).2
  rw [show bs [61] = ({ data := #[61] } : ByteArray) from rfl] at H2
  unfold pieceC at H3
  generalize (pieces T last (T.length + 1) (piece T last (sign T last [61] (take T last 1 [] s).2)).2).1 = ps at *
  generalize (pieces T last (T.length + 1) (piece T last (sign T last [61] (take T last 1 [] s).2)).2).2 = s4 at *
  generalize (piece T last (sign T last [61] (take T last 1 [] s).2)).1 = x0 at *
  generalize (piece T last (sign T last [61] (take T last 1 [] s).2)).2 = s3 at *
  generalize (sign T last [61] (take T last 1 [] s).2) = sz at *
  generalize (take T last 1 [] s).1 = nm at *
  generalize (take T last 1 [] s).2 = s0 at *
  clear h a0 h0 hw0
  go_enter Tryz.func52, Tryz.ntmps52
  go_wp2_with fail
  rw [HW0.out]
  refine (H1.out _ P0.1).mono ?_
  rintro e w1 ⟨rfl, p1⟩
  have Rr1 := kp_row16 p1.2 Rr0 Nr
  have P1 := JnP.then P0.2 p1
  clear p1 P0 Rr0
  have a2 : Below w1.heap.size w1 (w1.alloc (.cells #[.string (bs nm), .slice none 0 0] 53)) := (Below.refl _ _).alloc (Nat.le_refl _) _
  have Rv2 := rowNew w1 (.cells #[.string (bs nm), .slice none 0 0] 53)
  have Rr2 := (a2.block w.heap.size (lt_of_block Rr1)).trans Rr1
  have P2 : JnP w b T _ cap last _ (w1.alloc (.cells #[.string (bs nm), .slice none 0 0] 53)) := ⟨P1.1.below a2, P1.2.alloc _⟩
  have Lv : w.heap.size ≤ w1.heap.size := P1.2.size
  have Mv : b < w1.heap.size := by omega
  have Nv : w1.heap.size ≠ b := by omega
  obtain ⟨v2, hv2⟩ : ∃ zz, w1.alloc (.cells #[.string (bs nm), .slice none 0 0] 53) = zz := ⟨_, rfl⟩
  rw [hv2] at a2 Rv2 Rr2 P2
  have HV2 := Lib.hid hv2
  clear hv2
  have Drv : w.heap.size ≠ w1.heap.size := by have := lt_of_block Rr1; omega
  go_wp2_with fail
  rw [HV2.out]
  refine (H2.out _ P2.1).mono ?_
  rintro e w3 ⟨rfl, p3⟩
  have Rr3 := kp_row16 p3.2 Rr2 Nr
  have Rv3 := kp_row16 p3.2 Rv2 Nv
  have P3 := JnP.then P2.2 p3
  clear p3 P2 Rr2 Rv2 P1 a2
  go_wp2_with fail
  refine (H3.out _ P3.1).mono ?_
  rintro e w4 ⟨rfl, p4⟩
  have Rr4 := kp_row16 p4.2 Rr3 Nr
  have Rv4 := kp_row16 p4.2 Rv3 Nv
  have P4 := JnP.then P3.2 p4
  clear p4 P3 Rr3 Rv3
  have a5 : Below w4.heap.size w4 (w4.alloc (.cells #[.int .i64 x0.k, .string (bs x0.t), .string (bs x0.b)] 50)) := (Below.refl _ _).alloc (Nat.le_refl _) _
  have Rf5 := rowNew w4 (.cells #[.int .i64 x0.k, .string (bs x0.t), .string (bs x0.b)] 50)
  have Rr5 := (a5.block w.heap.size (lt_of_block Rr4)).trans Rr4
  have Rv5 := (a5.block w1.heap.size (lt_of_block Rv4)).trans Rv4
  have P5 : JnP w b T _ cap last _ (w4.alloc (.cells #[.int .i64 x0.k, .string (bs x0.t), .string (bs x0.b)] 50)) := ⟨P4.1.below a5, P4.2.alloc _⟩
  have Lf : w.heap.size ≤ w4.heap.size := P4.2.size
  have Mf : b < w4.heap.size := by omega
  have Nf : w4.heap.size ≠ b := by omega
  obtain ⟨v5, hv5⟩ : ∃ zz, w4.alloc (.cells #[.int .i64 x0.k, .string (bs x0.t), .string (bs x0.b)] 50) = zz := ⟨_, rfl⟩
  rw [hv5] at a5 Rf5 Rr5 Rv5 P5
  have HV5 := Lib.hid hv5
  clear hv5
  go_wp2_with fail
  rw [HV5.out]
  refine wp_region_any (by kernel_rfl) ?_
  change wpAny _ _ _ _ _ _ _ (World.drew _)
  have Pd : JnP w b T ao cap last s3 (World.drew _) := JnP.drew P5
  have Rrd : (World.drew _).heap[w.heap.size]? = _ := Rr5
  have Rvd : (World.drew _).heap[w1.heap.size]? = _ := Rv5
  have Rfd : (World.drew _).heap[w4.heap.size]? = _ := Rf5
  clear P5 Rr5 Rv5 Rf5
  generalize v5.drew = wd at *
  have zf0 := cellRow Rfd 0
  have zf1 := cellRow Rfd 1
  have zf2 := cellRow Rfd 2
  simp at zf0 zf1 zf2
  refine wpAny_take (i := 2) (v := .pointer (some ⟨b, 0, none⟩)) rfl (by kernel_rfl) (by kernel_rfl) (by kernel_rfl) (fun _ _ _ h => h) (Or.inl ⟨by rfl, ?_⟩) ?_
  · intro w9
    go_simp
  refine wpAny_take (i := 3) (v := .func (Fn.func 76) #[.pointer (some ⟨b, 0, none⟩)] #[]) rfl (by kernel_rfl) (by kernel_rfl) (by kernel_rfl) (fun _ _ _ h => h) (Or.inl ⟨by rfl, ?_⟩) ?_
  · intro w9
    go_simp
  refine wpAny_take (i := 4) (v := .pointer (some ⟨b, 0, none⟩)) rfl (by kernel_rfl) (by kernel_rfl) (by kernel_rfl) (fun _ _ _ h => h) (Or.inl ⟨by rfl, ?_⟩) ?_
  · intro w9
    go_simp
  refine wpAny_take (i := 5) (v := .func (Fn.func 74) #[.pointer (some ⟨b, 0, none⟩)] #[]) rfl (by kernel_rfl) (by kernel_rfl) (by kernel_rfl) (fun _ _ _ h => h) (Or.inl ⟨by rfl, ?_⟩) ?_
  · intro w9
    go_simp
  refine wpAny_ready (rs := [0, 6]) (by kernel_rfl) (by simp) (AllReady.cons rfl (fun K hK => ?_) (AllReady.cons rfl (fun K hK => ?_) AllReady.nil))
  · have z0 := cellRow Rfd 0
    have z1 := cellRow Rfd 1
    have z2 := cellRow Rfd 2
    simp at z0 z1 z2
    go_simp
    refine hK _ _ ?_
    clear hK K
    refine wpAny_ready (rs := [1, 6]) (by kernel_rfl) (by simp) (AllReady.cons rfl (fun K hK => ?_) (AllReady.cons rfl (fun K hK => ?_) AllReady.nil))
    · go_simp
      refine hK _ _ ?_
      clear hK K
      have a31 : Below wd.heap.size wd (wd.alloc (.cells #[.int .i64 x0.k, .string (bs x0.t), .string (bs x0.b)] 50)) := (Below.refl _ _).alloc (Nat.le_refl _) _
      have X31 := rowNew wd (.cells #[.int .i64 x0.k, .string (bs x0.t), .string (bs x0.b)] 50)
      have P31 := Pd.alloc (.cells #[.int .i64 x0.k, .string (bs x0.t), .string (bs x0.b)] 50)
      have hB31 : w.heap.size ≤ wd.heap.size := Pd.2.size
      have O31 := own_lit (B := w.heap.size) X31 rfl rfl hB31
      have Rr31 := (a31.block (w.heap.size) (lt_of_block Rrd)).trans Rrd
      have Rv31 := (a31.block (w1.heap.size) (lt_of_block Rvd)).trans Rvd
      have Rf31 := (a31.block (w4.heap.size) (lt_of_block Rfd)).trans Rfd
      generalize hw31 : wd.alloc (.cells #[.int .i64 x0.k, .string (bs x0.t), .string (bs x0.b)] 50) = y31 at *
      have HW31 := Lib.hid hw31
      clear hw31
      refine wpAny_ready (rs := [6]) (by kernel_rfl) (by simp) (AllReady.cons rfl (fun K hK => ?_) AllReady.nil)
      go_simp
      go_wp2_with (go_at_call 75; refine (HL.out _ P31.1).mono ?_; rintro e y32 ⟨vl, rfl, p9, L32⟩)
      have P32 := JnP.then P31.2 p9
      have Rr32 := kp_row16 p9.2 Rr31 Nr
      have Rv32 := kp_row16 p9.2 Rv31 Nv
      have Rf32 := kp_row16 p9.2 Rf31 Nf
      have O32 := jown_b O31 P31.1 (by decide) p9.2
      clear p9
      obtain ⟨la, lc, hvl, -, hrl, hsl⟩ := L32.form (by decide)
      rw [List.length_map] at hvl
      subst hvl
      have hyl : RowsC 3 (ps.map pcRow) := L32.2
      have hs0 : (la = none ∧ (ps.map pcRow).length = 0 ∧ lc = 0) ∨ ∃ a, la = some a := hsl.imp id (fun ⟨g, e, _⟩ => ⟨_, e⟩)
      have hB9 : w.heap.size ≤ y32.heap.size := P32.2.size
      refine wpAny_ready (rs := [7]) (by kernel_rfl) (by simp) (AllReady.cons rfl (fun K hK => ?_) AllReady.nil)
      refine appRwAll rfl Tryz.underlying51 pcinfo rfl (by decide) _ rfl O32 (ys := ps.map pcRow) (by rw [List.length_map]; rfl) (rdr_read hrl) hyl hs0 (by intro r hr u hu; obtain ⟨x, -, rfl⟩ := List.mem_map.1 hr; simp [pcRow] at hu; rcases hu with rfl | rfl | rfl <;> rfl) (by simp; omega) (by decide) hB9 ?_
      intro v8 y8 m8 g8
      have P8 := JnP.grown P32 g8 O32.1 (Nat.le_refl _) hlt
      have Rr8 := row_grown Rr32 g8 O32.1 (by decide)
      have Rv8 := row_grown Rv32 g8 O32.1 (by decide)
      refine hK _ _ ?_
      clear hK K
      obtain ⟨ao8, cap8, hv8, -⟩ := m8.form (by decide)
      have hl8 : ([[Value.int .i64 x0.k, Value.string (bs x0.t), Value.string (bs x0.b)]] ++ List.map pcRow ps).length = ps.length + 1 := by simp
      rw [hl8] at hv8
      subst hv8
      have z8 := cellRow Rv8 1
      have f8 := freeRow Rv8 1
      simp at z8
      refine wpAny_take (i := 8) (v := .pointer (some ⟨w1.heap.size, 1, none⟩)) rfl (by kernel_rfl) (by kernel_rfl) (by kernel_rfl) (fun _ _ _ h => h) (Or.inl ⟨by rfl, ?_⟩) ?_
      · intro w9
        go_simp
      refine wpAny_ready (rs := [9]) (by kernel_rfl) (by simp) (AllReady.cons rfl (fun K hK => ?_) AllReady.nil)
      go_simp
      refine hK _ _ ?_
      clear hK K
      refine wpAny_done (by kernel_rfl) ?_ _
      have yv1_60 : World.cell? _ ⟨w1.heap.size, 1, none⟩ = some (.slice none 0 0) := cellRow Rv8 1
      have fv1_60 := freeRow Rv8 1
      have P60 := jnp_new P8 Lv Mv 1 (.slice ao8 (ps.length + 1) cap8)
      have Ok60 := m8.set Rv8 (by decide) 1 (.slice ao8 (ps.length + 1) cap8)
      have Rr60 := (Below.heap_setCell _ ⟨w1.heap.size, 1, none⟩ (.slice ao8 (ps.length + 1) cap8) _ (Drv)).trans Rr8
      have Rv60 := row_to (B := #[.string (bs nm), .slice ao8 (ps.length + 1) cap8]) (rowSet Rv8 1 (.slice ao8 (ps.length + 1) cap8)) rfl
      have yv0_61 : World.cell? _ ⟨w1.heap.size, 0, none⟩ = some (.string (bs nm)) := cellRow Rv60 0
      have fv0_61 := freeRow Rv60 0
      have yv1_61 : World.cell? _ ⟨w1.heap.size, 1, none⟩ = some (.slice ao8 (ps.length + 1) cap8) := cellRow Rv60 1
      have fv1_61 := freeRow Rv60 1
      have yr0_61 : World.cell? _ ⟨w.heap.size, 0, none⟩ = some (.string { data := #[] }) := cellRow Rr60 0
      have fr0_61 := freeRow Rr60 0
      have yr1_61 : World.cell? _ ⟨w.heap.size, 1, none⟩ = some (.slice none 0 0) := cellRow Rr60 1
      have fr1_61 := freeRow Rr60 1
      have QP := Lib.hid (jnp_new (jnp_new P60 Lr hlt 0 (.string (bs nm))) Lr hlt 1 (.slice ao8 (ps.length + 1) cap8))
      have QOk := Lib.hid ((Ok60.set Rr60 (by decide) 0 (.string (bs nm))).set (rowSet Rr60 0 (.string (bs nm))) (by decide) 1 (.slice ao8 (ps.length + 1) cap8))
      have PX := row_to (B := #[.string (bs nm), .slice ao8 (ps.length + 1) cap8]) (rowSet (rowSet Rr60 0 (.string (bs nm))) 1 (.slice ao8 (ps.length + 1) cap8)) rfl
      clear P60 Rv60 Rr60 Ok60
      go_wp2
      refine bodyPost_ret (results_cell_row rfl _ _ (w.heap.size) _ _ _ _ rfl PX Tryz.underlying53 rfl (by kernel_rfl)) rfl ?_
      rw [HX.out]
      obtain ⟨ao9, cap9, hv9, -, hrd9, -⟩ := QOk.out.form (by decide)
      rw [hl8] at hv9
      injection hv9 with hv9 _ hv9b
      subst hv9
      first | exact ⟨_, _, rfl, hrd9, QP.out⟩ | exact ⟨_, ⟨_, rfl⟩, hrd9, QP.out⟩
    · go_simp
      go_wp2_with (go_at_call 75; refine (HL.out _ Pd.1).mono ?_; rintro e y31 ⟨vl, rfl, p9, L31⟩)
      have P31 := JnP.then Pd.2 p9
      have Rr31 := kp_row16 p9.2 Rrd Nr
      have Rv31 := kp_row16 p9.2 Rvd Nv
      have Rf31 := kp_row16 p9.2 Rfd Nf
      clear p9
      refine wpAny_ready (rs := [1]) (by kernel_rfl) (by simp) (AllReady.cons rfl (fun K hK => ?_) AllReady.nil)
      go_simp
      refine hK _ _ ?_
      clear hK K
      have a32 : Below y31.heap.size y31 (y31.alloc (.cells #[.int .i64 x0.k, .string (bs x0.t), .string (bs x0.b)] 50)) := (Below.refl _ _).alloc (Nat.le_refl _) _
      have X32 := rowNew y31 (.cells #[.int .i64 x0.k, .string (bs x0.t), .string (bs x0.b)] 50)
      have P32 := P31.alloc (.cells #[.int .i64 x0.k, .string (bs x0.t), .string (bs x0.b)] 50)
      have hB32 : w.heap.size ≤ y31.heap.size := P31.2.size
      have O32 := own_lit (B := w.heap.size) X32 rfl rfl hB32
      have Rr32 := (a32.block (w.heap.size) (lt_of_block Rr31)).trans Rr31
      have Rv32 := (a32.block (w1.heap.size) (lt_of_block Rv31)).trans Rv31
      have Rf32 := (a32.block (w4.heap.size) (lt_of_block Rf31)).trans Rf31
      have L32 := L31.below a32
      generalize hw32 : y31.alloc (.cells #[.int .i64 x0.k, .string (bs x0.t), .string (bs x0.b)] 50) = y32 at *
      have HW32 := Lib.hid hw32
      clear hw32
      obtain ⟨la, lc, hvl, -, hrl, hsl⟩ := L32.form (by decide)
      rw [List.length_map] at hvl
      subst hvl
      have hyl : RowsC 3 (ps.map pcRow) := L32.2
      have hs0 : (la = none ∧ (ps.map pcRow).length = 0 ∧ lc = 0) ∨ ∃ a, la = some a := hsl.imp id (fun ⟨g, e, _⟩ => ⟨_, e⟩)
      have hB9 : w.heap.size ≤ y32.heap.size := P32.2.size
      refine wpAny_ready (rs := [7]) (by kernel_rfl) (by simp) (AllReady.cons rfl (fun K hK => ?_) AllReady.nil)
      refine appRwAll rfl Tryz.underlying51 pcinfo rfl (by decide) _ rfl O32 (ys := ps.map pcRow) (by rw [List.length_map]; rfl) (rdr_read hrl) hyl hs0 (by intro r hr u hu; obtain ⟨x, -, rfl⟩ := List.mem_map.1 hr; simp [pcRow] at hu; rcases hu with rfl | rfl | rfl <;> rfl) (by simp; omega) (by decide) hB9 ?_
      intro v8 y8 m8 g8
      have P8 := JnP.grown P32 g8 O32.1 (Nat.le_refl _) hlt
      have Rr8 := row_grown Rr32 g8 O32.1 (by decide)
      have Rv8 := row_grown Rv32 g8 O32.1 (by decide)
      refine hK _ _ ?_
      clear hK K
      obtain ⟨ao8, cap8, hv8, -⟩ := m8.form (by decide)
      have hl8 : ([[Value.int .i64 x0.k, Value.string (bs x0.t), Value.string (bs x0.b)]] ++ List.map pcRow ps).length = ps.length + 1 := by simp
      rw [hl8] at hv8
      subst hv8
      have z8 := cellRow Rv8 1
      have f8 := freeRow Rv8 1
      simp at z8
      refine wpAny_take (i := 8) (v := .pointer (some ⟨w1.heap.size, 1, none⟩)) rfl (by kernel_rfl) (by kernel_rfl) (by kernel_rfl) (fun _ _ _ h => h) (Or.inl ⟨by rfl, ?_⟩) ?_
      · intro w9
        go_simp
      refine wpAny_ready (rs := [9]) (by kernel_rfl) (by simp) (AllReady.cons rfl (fun K hK => ?_) AllReady.nil)
      go_simp
      refine hK _ _ ?_
      clear hK K
      refine wpAny_done (by kernel_rfl) ?_ _
      have yv1_60 : World.cell? _ ⟨w1.heap.size, 1, none⟩ = some (.slice none 0 0) := cellRow Rv8 1
      have fv1_60 := freeRow Rv8 1
      have P60 := jnp_new P8 Lv Mv 1 (.slice ao8 (ps.length + 1) cap8)
      have Ok60 := m8.set Rv8 (by decide) 1 (.slice ao8 (ps.length + 1) cap8)
      have Rr60 := (Below.heap_setCell _ ⟨w1.heap.size, 1, none⟩ (.slice ao8 (ps.length + 1) cap8) _ (Drv)).trans Rr8
      have Rv60 := row_to (B := #[.string (bs nm), .slice ao8 (ps.length + 1) cap8]) (rowSet Rv8 1 (.slice ao8 (ps.length + 1) cap8)) rfl
      have yv0_61 : World.cell? _ ⟨w1.heap.size, 0, none⟩ = some (.string (bs nm)) := cellRow Rv60 0
      have fv0_61 := freeRow Rv60 0
      have yv1_61 : World.cell? _ ⟨w1.heap.size, 1, none⟩ = some (.slice ao8 (ps.length + 1) cap8) := cellRow Rv60 1
      have fv1_61 := freeRow Rv60 1
      have yr0_61 : World.cell? _ ⟨w.heap.size, 0, none⟩ = some (.string { data := #[] }) := cellRow Rr60 0
      have fr0_61 := freeRow Rr60 0
      have yr1_61 : World.cell? _ ⟨w.heap.size, 1, none⟩ = some (.slice none 0 0) := cellRow Rr60 1
      have fr1_61 := freeRow Rr60 1
      have QP := Lib.hid (jnp_new (jnp_new P60 Lr hlt 0 (.string (bs nm))) Lr hlt 1 (.slice ao8 (ps.length + 1) cap8))
      have QOk := Lib.hid ((Ok60.set Rr60 (by decide) 0 (.string (bs nm))).set (rowSet Rr60 0 (.string (bs nm))) (by decide) 1 (.slice ao8 (ps.length + 1) cap8))
      have PX := row_to (B := #[.string (bs nm), .slice ao8 (ps.length + 1) cap8]) (rowSet (rowSet Rr60 0 (.string (bs nm))) 1 (.slice ao8 (ps.length + 1) cap8)) rfl
      clear P60 Rv60 Rr60 Ok60
      go_wp2
      refine bodyPost_ret (results_cell_row rfl _ _ (w.heap.size) _ _ _ _ rfl PX Tryz.underlying53 rfl (by kernel_rfl)) rfl ?_
      rw [HX.out]
      obtain ⟨ao9, cap9, hv9, -, hrd9, -⟩ := QOk.out.form (by decide)
      rw [hl8] at hv9
      injection hv9 with hv9 _ hv9b
      subst hv9
      first | exact ⟨_, _, rfl, hrd9, QP.out⟩ | exact ⟨_, ⟨_, rfl⟩, hrd9, QP.out⟩
  · go_simp
    go_wp2_with (go_at_call 75; refine (HL.out _ Pd.1).mono ?_; rintro e y31 ⟨vl, rfl, p9, L31⟩)
    have P31 := JnP.then Pd.2 p9
    have Rr31 := kp_row16 p9.2 Rrd Nr
    have Rv31 := kp_row16 p9.2 Rvd Nv
    have Rf31 := kp_row16 p9.2 Rfd Nf
    clear p9
    refine wpAny_ready (rs := [0]) (by kernel_rfl) (by simp) (AllReady.cons rfl (fun K hK => ?_) AllReady.nil)
    have z0 := cellRow Rf31 0
    have z1 := cellRow Rf31 1
    have z2 := cellRow Rf31 2
    simp at z0 z1 z2
    go_simp
    refine hK _ _ ?_
    clear hK K
    refine wpAny_ready (rs := [1]) (by kernel_rfl) (by simp) (AllReady.cons rfl (fun K hK => ?_) AllReady.nil)
    go_simp
    refine hK _ _ ?_
    clear hK K
    have a32 : Below y31.heap.size y31 (y31.alloc (.cells #[.int .i64 x0.k, .string (bs x0.t), .string (bs x0.b)] 50)) := (Below.refl _ _).alloc (Nat.le_refl _) _
    have X32 := rowNew y31 (.cells #[.int .i64 x0.k, .string (bs x0.t), .string (bs x0.b)] 50)
    have P32 := P31.alloc (.cells #[.int .i64 x0.k, .string (bs x0.t), .string (bs x0.b)] 50)
    have hB32 : w.heap.size ≤ y31.heap.size := P31.2.size
    have O32 := own_lit (B := w.heap.size) X32 rfl rfl hB32
    have Rr32 := (a32.block (w.heap.size) (lt_of_block Rr31)).trans Rr31
    have Rv32 := (a32.block (w1.heap.size) (lt_of_block Rv31)).trans Rv31
    have Rf32 := (a32.block (w4.heap.size) (lt_of_block Rf31)).trans Rf31
    have L32 := L31.below a32
    generalize hw32 : y31.alloc (.cells #[.int .i64 x0.k, .string (bs x0.t), .string (bs x0.b)] 50) = y32 at *
    have HW32 := Lib.hid hw32
    clear hw32
    obtain ⟨la, lc, hvl, -, hrl, hsl⟩ := L32.form (by decide)
    rw [List.length_map] at hvl
    subst hvl
    have hyl : RowsC 3 (ps.map pcRow) := L32.2
    have hs0 : (la = none ∧ (ps.map pcRow).length = 0 ∧ lc = 0) ∨ ∃ a, la = some a := hsl.imp id (fun ⟨g, e, _⟩ => ⟨_, e⟩)
    have hB9 : w.heap.size ≤ y32.heap.size := P32.2.size
    refine wpAny_ready (rs := [7]) (by kernel_rfl) (by simp) (AllReady.cons rfl (fun K hK => ?_) AllReady.nil)
    refine appRwAll rfl Tryz.underlying51 pcinfo rfl (by decide) _ rfl O32 (ys := ps.map pcRow) (by rw [List.length_map]; rfl) (rdr_read hrl) hyl hs0 (by intro r hr u hu; obtain ⟨x, -, rfl⟩ := List.mem_map.1 hr; simp [pcRow] at hu; rcases hu with rfl | rfl | rfl <;> rfl) (by simp; omega) (by decide) hB9 ?_
    intro v8 y8 m8 g8
    have P8 := JnP.grown P32 g8 O32.1 (Nat.le_refl _) hlt
    have Rr8 := row_grown Rr32 g8 O32.1 (by decide)
    have Rv8 := row_grown Rv32 g8 O32.1 (by decide)
    refine hK _ _ ?_
    clear hK K
    obtain ⟨ao8, cap8, hv8, -⟩ := m8.form (by decide)
    have hl8 : ([[Value.int .i64 x0.k, Value.string (bs x0.t), Value.string (bs x0.b)]] ++ List.map pcRow ps).length = ps.length + 1 := by simp
    rw [hl8] at hv8
    subst hv8
    have z8 := cellRow Rv8 1
    have f8 := freeRow Rv8 1
    simp at z8
    refine wpAny_take (i := 8) (v := .pointer (some ⟨w1.heap.size, 1, none⟩)) rfl (by kernel_rfl) (by kernel_rfl) (by kernel_rfl) (fun _ _ _ h => h) (Or.inl ⟨by rfl, ?_⟩) ?_
    · intro w9
      go_simp
    refine wpAny_ready (rs := [9]) (by kernel_rfl) (by simp) (AllReady.cons rfl (fun K hK => ?_) AllReady.nil)
    go_simp
    refine hK _ _ ?_
    clear hK K
    refine wpAny_done (by kernel_rfl) ?_ _
    have yv1_60 : World.cell? _ ⟨w1.heap.size, 1, none⟩ = some (.slice none 0 0) := cellRow Rv8 1
    have fv1_60 := freeRow Rv8 1
    have P60 := jnp_new P8 Lv Mv 1 (.slice ao8 (ps.length + 1) cap8)
    have Ok60 := m8.set Rv8 (by decide) 1 (.slice ao8 (ps.length + 1) cap8)
    have Rr60 := (Below.heap_setCell _ ⟨w1.heap.size, 1, none⟩ (.slice ao8 (ps.length + 1) cap8) _ (Drv)).trans Rr8
    have Rv60 := row_to (B := #[.string (bs nm), .slice ao8 (ps.length + 1) cap8]) (rowSet Rv8 1 (.slice ao8 (ps.length + 1) cap8)) rfl
    have yv0_61 : World.cell? _ ⟨w1.heap.size, 0, none⟩ = some (.string (bs nm)) := cellRow Rv60 0
    have fv0_61 := freeRow Rv60 0
    have yv1_61 : World.cell? _ ⟨w1.heap.size, 1, none⟩ = some (.slice ao8 (ps.length + 1) cap8) := cellRow Rv60 1
    have fv1_61 := freeRow Rv60 1
    have yr0_61 : World.cell? _ ⟨w.heap.size, 0, none⟩ = some (.string { data := #[] }) := cellRow Rr60 0
    have fr0_61 := freeRow Rr60 0
    have yr1_61 : World.cell? _ ⟨w.heap.size, 1, none⟩ = some (.slice none 0 0) := cellRow Rr60 1
    have fr1_61 := freeRow Rr60 1
    have QP := Lib.hid (jnp_new (jnp_new P60 Lr hlt 0 (.string (bs nm))) Lr hlt 1 (.slice ao8 (ps.length + 1) cap8))
    have QOk := Lib.hid ((Ok60.set Rr60 (by decide) 0 (.string (bs nm))).set (rowSet Rr60 0 (.string (bs nm))) (by decide) 1 (.slice ao8 (ps.length + 1) cap8))
    have PX := row_to (B := #[.string (bs nm), .slice ao8 (ps.length + 1) cap8]) (rowSet (rowSet Rr60 0 (.string (bs nm))) 1 (.slice ao8 (ps.length + 1) cap8)) rfl
    clear P60 Rv60 Rr60 Ok60
    go_wp2
    refine bodyPost_ret (results_cell_row rfl _ _ (w.heap.size) _ _ _ _ rfl PX Tryz.underlying53 rfl (by kernel_rfl)) rfl ?_
    rw [HX.out]
    obtain ⟨ao9, cap9, hv9, -, hrd9, -⟩ := QOk.out.form (by decide)
    rw [hl8] at hv9
    injection hv9 with hv9 _ hv9b
    subst hv9
    first | exact ⟨_, _, rfl, hrd9, QP.out⟩ | exact ⟨_, ⟨_, rfl⟩, hrd9, QP.out⟩
end PQ
end Go.Proofs.YtaeglmgpoboihaaGreatDoor
