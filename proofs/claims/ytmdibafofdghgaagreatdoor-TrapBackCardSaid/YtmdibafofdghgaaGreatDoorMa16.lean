/- Texts on the program and on the document, joined: OidU, ValI, PduH. -/
import Derived.Test.YtmdibafofdghgaaGreatDoorMa15
import Derived.Test.YtmdibafofdghgaaGreatDoorShelf
import Derived.Test.YtmdibafofdghgaaGreatDoorMa12
import Derived.Test.YtmdibafofdghgaaGreatDoorMa14
/- oid's number, walked; what the tables hold. -/
namespace Go.Proofs.YtmdibafofdghgaaGreatDoor
open Go.ChangeShapes Go.WideShapes Go.ChangeAt Go.RowKit K O6
set_option linter.unusedVariables false

/-- What the library's variables hold. -/
def Tabs (w : World) : Prop :=
  (∃ m, w.cell? ⟨2, 0, none⟩ = some (.int .i64 m)) ∧ (∃ te pe, w.cell? ⟨3, 0, none⟩ = some (.iface te pe)) ∧ (∃ te pe, w.cell? ⟨4, 0, none⟩ = some (.iface te pe)) ∧
    Lib.TabIs Tryz.prog w "internal/strconv.uint64pow10" .u64 Lib.pow10Tab
theorem Tabs.below {w w' : World} (h : Tabs w) (k : Below w.heap.size w w') : Tabs w' := by
  obtain ⟨⟨m, h1⟩, ⟨t1, p1, h2⟩, ⟨t2, p2, h3⟩, h4⟩ := h
  refine ⟨⟨m, (k.cell (p := ⟨2, 0, none⟩) (World.block_lt_of_cell? w _ h1)).trans h1⟩, ⟨t1, p1, (k.cell (p := ⟨3, 0, none⟩) (World.block_lt_of_cell? w _ h2)).trans h2⟩,
    ⟨t2, p2, (k.cell (p := ⟨4, 0, none⟩) (World.block_lt_of_cell? w _ h3)).trans h3⟩, tab_below h4 k⟩
theorem nr_bad {l : List UInt8} (h : ∀ u, Lib.parseUintB 32 l ≠ .ok u) : nr l = none := by
  unfold nr
  cases hp : Lib.parseUintB 32 l with
  | ok u => exact absurd hp (h u)
  | _ => rfl
theorem nr_ok {l : List UInt8} {u : Nat} (h : Lib.parseUintB 32 l = .ok u) : l ≠ [] ∧ u ≤ 4294967295 ∧ nr l = if byt l 0 = 48 ∧ l ≠ [48] then none else some u := by
  refine ⟨?_, ?_, ?_⟩
  · intro e; subst e; unfold Lib.parseUintB at h; rw [if_pos rfl] at h; cases h
  · unfold Lib.parseUintB at h
    by_cases hl : l = []
    · rw [if_pos hl] at h; cases h
    · rw [if_neg hl] at h
      exact (pum_inv l 0 u (by omega) h).2.2
  · unfold nr; rw [h]
/-- What number tells of a word. -/
def NrPost (l : List UInt8) (w : World) (e : Ending) (w' : World) : Prop :=
  e = .returned (.tuple #[.int .i64 (((nr l).getD 0 : Nat) : Int), .bool (nr l).isSome]) ∧ Below w.heap.size w w'
set_option maxRecDepth 100000 in
set_option maxHeartbeats 1000000 in
theorem onumber_no (l : List UInt8) (hl : l.length ≤ 1000000) (w : World) (T : Tabs w) (h : ∀ u, Lib.parseUintB 32 l ≠ .ok u) :
    Calls Tryz.prog 111 #[.string (bs l)] w (NrPost l w) := by
  obtain ⟨-, ⟨t1, p1, h2⟩, ⟨t2, p2, h3⟩, -⟩ := T
  unfold NrPost
  rw [nr_bad h]
  cases hp : Lib.parseUintB 32 l with
  | ok u => exact absurd hp (h u)
  | range =>
    have HC := Lib.hid (Tryz.strconv_ParseUint_10_at32_range (bs l) (by rw [bs_size]; omega) (by rw [bs_toList]; exact hp) _ w h3 (.inr ⟨_, _, rfl⟩))
    clear hp h2 h3 h
    go_enter Tryz.func111, Tryz.ntmps111
    go_wp2_with fail
    refine HC.out.mono ?_
    rintro e w1 ⟨n, rfl, -, -, b1⟩
    go_wp2
    go_ret2
    exact ⟨rfl, b1⟩
  | _ =>
    have HC := Lib.hid (Tryz.strconv_ParseUint_10_at32_syntax (bs l) (by rw [bs_size]; omega) (by rw [bs_toList]; exact hp) _ w h2 (.inr ⟨_, _, rfl⟩))
    clear hp h2 h3 h
    go_enter Tryz.func111, Tryz.ntmps111
    go_wp2_with fail
    refine HC.out.mono ?_
    rintro e w1 ⟨n, rfl, -, -, b1⟩
    go_wp2
    go_ret2
    exact ⟨rfl, b1⟩
set_option maxRecDepth 100000 in
set_option maxHeartbeats 1000000 in
theorem onumber_yes (l : List UInt8) (hl : l.length ≤ 1000000) (u : Nat) (w : World) (h : Lib.parseUintB 32 l = .ok u) :
    Calls Tryz.prog 111 #[.string (bs l)] w (NrPost l w) := by
  obtain ⟨hne, hu, hnr⟩ := nr_ok h
  unfold NrPost
  have hC := Tryz.strconv_ParseUint_10_at32_ok (bs l) (by rw [bs_size]; omega) u (by rw [bs_toList]; exact h) w
  have HC := Lib.hid (hC.mono (fun e w' (hh : e = .returned (.tuple #[.int .u64 u, .nilIface]) ∧ (w' = w ∨ w' = Lib.bytesWorld w 5 (bs l))) => (⟨hh.1, by
    rcases hh.2 with h1 | h1
    · rw [h1]; exact Below.refl _ _
    · rw [h1]; exact (Kp.bytes (Kp.refl [] w) 5 (bs l)).below (Nat.le_refl _) (by simp)⟩ : e = .returned (.tuple #[.int .u64 u, .nilIface]) ∧ Below w.heap.size w w')))
  clear hC h
  have hp : 0 < l.length := List.length_pos_iff.2 hne
  have hp' : (0 : Int) < ((l.length : Nat) : Int) := by omega
  by_cases h48 : byt l 0 = 48
  · have hb : (((byt l 0 : Nat) : Int) == 48) = true := by rw [h48]; rfl
    by_cases hl48 : l = [48]
    · have he : (l == [48]) = true := beq_iff_eq.2 hl48
      have HN := Lib.hid (show nr l = some u by rw [hnr, if_neg (by rintro ⟨_, h⟩; exact h hl48)])
      clear hnr h48 hl48 hne hp
      go_enter Tryz.func111, Tryz.ntmps111
      go_wp2_with fail
      refine HC.out.mono ?_
      rintro e w1 ⟨rfl, b1⟩
      go_wp2
      go_ret2
      rw [HN.out]
      exact ⟨rfl, b1⟩
    · have he : (l == [48]) = false := beq_eq_false_iff_ne.2 hl48
      have HN := Lib.hid (show nr l = none by rw [hnr, if_pos ⟨h48, hl48⟩])
      clear hnr h48 hl48 hne hp
      go_enter Tryz.func111, Tryz.ntmps111
      go_wp2_with fail
      refine HC.out.mono ?_
      rintro e w1 ⟨rfl, b1⟩
      go_wp2
      go_ret2
      rw [HN.out]
      exact ⟨rfl, b1⟩
  · have hb : (((byt l 0 : Nat) : Int) == 48) = false := by rw [beq_eq_false_iff_ne]; omega
    have HN := Lib.hid (show nr l = some u by rw [hnr, if_neg (by rintro ⟨h, _⟩; exact h48 h)])
    clear hnr h48 hne hp
    go_enter Tryz.func111, Tryz.ntmps111
    go_wp2_with fail
    refine HC.out.mono ?_
    rintro e w1 ⟨rfl, b1⟩
    go_wp2
    go_ret2
    rw [HN.out]
    exact ⟨rfl, b1⟩
theorem onumber_walk (l : List UInt8) (hl : l.length ≤ 1000000) (w : World) (T : Tabs w) :
    Calls Tryz.prog 111 #[.string (bs l)] w (NrPost l w) := by
  cases hp : Lib.parseUintB 32 l with
  | ok u => exact onumber_yes l hl u w hp
  | _ => exact onumber_no l hl w T (fun u h => by rw [hp] at h; cases h)

/-! ### Arcs -/
theorem made_info : (Tryz.prog.info? 3).map (fun i => (i.zero, i.size, i.bytes)) = some (some (.int .i64 0), 1, 8) := by kernel_rfl
theorem pcsB (s : List UInt8) : (Lib.splitB (bs [46]) 0 (min 129 ((bs s).size + 1) - 1) (bs s)).map (fun x => x.data.toList) = pcs s := by
  rw [Lib.splitB_data, bs_toList, bs_toList, bs_size]; rfl
/-- The words as they lie. -/
def Wds (w : World) (g : Nat) (ps : List (List UInt8)) : Prop := g < w.heap.size ∧ ∀ i, i < ps.length → w.cell? ⟨g, i, none⟩ = some (.string (bs (ps.getD i [])))
theorem Wds.below {w w' : World} {g : Nat} {ps : List (List UInt8)} (h : Wds w g ps) (k : Below w.heap.size w w') : Wds w' g ps :=
  ⟨Nat.lt_of_lt_of_le h.1 k.size, fun i hi => (k.cell (p := ⟨g, i, none⟩) h.1).trans (h.2 i hi)⟩
theorem Wds.new (s : List UInt8) (w : World) (T : TypeId) : Wds (w.alloc (.cells (Lib.cellsOf (Lib.splitB (bs [46]) 0 (min 129 ((bs s).size + 1) - 1) (bs s)) (min 129 ((bs s).size + 1))) T)) w.heap.size (pcs s) := by
  have hp := pcsB s
  refine ⟨by simp, fun i hi => ?_⟩
  rw [cellRow (rowNew w _)]
  rw [← hp] at hi ⊢
  rw [List.length_map] at hi
  generalize Lib.splitB (bs [46]) 0 (min 129 ((bs s).size + 1) - 1) (bs s) = ps at *
  unfold Lib.cellsOf
  rw [List.getElem?_toArray, List.getElem?_append_left (by simpa using hi), List.getElem?_map, List.getElem?_eq_getElem hi]
  simp [List.getD, List.getElem?_eq_getElem hi, bs]
theorem pcs_le (s : List UInt8) : ∀ x ∈ pcs s, x.length ≤ s.length := by
  have h : ∀ (k : Nat) (l : List UInt8), ∀ x ∈ Lib.splitK [46] 0 k l, x.length ≤ l.length := by
    intro k
    induction k with
    | zero =>
      intro l x hx
      have : x = l := by simpa [Lib.splitK] using hx
      rw [this]; exact Nat.le_refl _
    | succ k ih =>
      intro l x hx
      rcases dot_or l with h | ⟨a, r, rfl, h⟩
      · rw [spk_none _ _ h] at hx
        have : x = l := by simpa using hx
        rw [this]; exact Nat.le_refl _
      · rw [spk_some k a r h] at hx
        rw [List.length_append, List.length_cons]
        rcases List.mem_cons.1 hx with h1 | h1
        · rw [h1]; omega
        · have := ih r x h1; omega
  exact h _ s
theorem getD_mem {l : List (List UInt8)} {i : Nat} (hi : i < l.length) : l.getD i [] ∈ l := by
  simp [List.getD, List.getElem?_eq_getElem hi]
/-- The list of numbers while it is filled. -/
def fil (done : List Nat) (n : Nat) : Array Value := (nums (done ++ List.replicate (n - done.length) 0)).toArray
theorem fil_size (done : List Nat) (n : Nat) (h : done.length ≤ n) : (fil done n).size = n := by simp [fil, nums]; omega
theorem fil_nil (n : Nat) : madeCells #[.int .i64 0] n = fil [] n := by
  apply Array.ext
  · simp [fil, madeCells, nums]
  · intro i h1 h2
    simp [fil, madeCells, nums, Nat.mod_one]
theorem set_mid : ∀ (a : List Value) (x v : Value) (c : List Value), (a ++ x :: c).set a.length v = a ++ v :: c
  | [], _, _, _ => rfl
  | y :: a, x, v, c => by
    show y :: (a ++ x :: c).set a.length v = y :: (a ++ v :: c)
    rw [set_mid a x v c]
theorem fil_set (done : List Nat) (n v : Nat) (h : done.length < n) : (fil done n).setIfInBounds done.length (.int .i64 (v : Nat)) = fil (done ++ [v]) n := by
  obtain ⟨m, rfl⟩ : ∃ m, n = done.length + (m + 1) := ⟨n - done.length - 1, by omega⟩
  have e1 : done.length + (m + 1) - done.length = m + 1 := by omega
  have e2 : done.length + (m + 1) - (done ++ [v]).length = m := by rw [List.length_append, List.length_singleton]; omega
  unfold fil
  rw [e1, e2, List.setIfInBounds_toArray, List.replicate_succ, nums_app, nums_app, nums_app, List.append_assoc]
  have hs := set_mid (nums done) (.int .i64 ((0 : Nat) : Int)) (.int .i64 (v : Nat)) (nums (List.replicate m 0))
  rw [nums_len] at hs
  exact congrArg List.toArray hs
theorem fil_full (done : List Nat) : fil done done.length = (nums done).toArray := by simp [fil]
theorem fil_own {w : World} {B g : Nat} {T : TypeId} {done : List Nat} (hB : B ≤ g) (hm : done.length ≤ 1000) (h : w.heap[g]? = some (.cells (fil done done.length) T (0, 0))) : OwnI w B T (.slice (some ⟨g, 0, none⟩) done.length done.length) done := by
  rw [fil_full] at h
  refine ⟨by simp [nums], .inr ⟨g, done.length, _, rfl, hB, h, Nat.le_refl _, by unfold maxLen; omega, by simp [nums], ?_⟩⟩
  rw [Nat.mul_one]
  exact List.take_of_length_le (by simp [nums])
theorem RdZ.ofOwn {w : World} {B : Nat} {T : TypeId} {v : Value} {cs : List Nat} (h : OwnI w B T v cs) : ∃ ao cap, v = .slice ao cs.length cap ∧ RdZ w ao cs.length (fz cs) := by
  obtain ⟨ao, cap, hv, hc⟩ := h.form
  refine ⟨ao, cap, hv, ?_⟩
  rcases hc with h0 | ⟨g, ha, _, hg, hcell⟩
  · exact .inl h0
  · exact .inr ⟨g, 0, ha, hg, fun i hi => by rw [Nat.zero_add]; exact (hcell i hi).1⟩
def ArLp (s : List UInt8) (w : World) (gw ga g : Nat) (v : Value) (wr : World) : Prop :=
  ∃ done : List Nat, done.length + g = (pcs s).length ∧ v = .int .i64 (done.length : Nat) ∧ (∀ j, j < done.length → nr ((pcs s).getD j []) = some (done.getD j 0)) ∧ Wds wr gw (pcs s) ∧
    wr.heap[ga]? = some (.cells (fil done (pcs s).length) 3 (0, 0)) ∧ Below w.heap.size w wr
set_option maxRecDepth 100000 in
set_option maxHeartbeats 1000000 in
theorem arcs_walk (s : List UInt8) (hs : s.length ≤ 1000000) (w : World) (T : Tabs w) :
    Calls Tryz.prog 85 #[.string (bs s)] w (ArPost s w) := by
  obtain ⟨⟨m, hm⟩, -⟩ := id T
  have hSP := Tryz.strings_SplitN (bs s) (bs [46]) 129 m w (by rw [bs_size]; omega) hm (by rw [bs_size]; decide) (by decide) (by decide)
  have hW := fun T => Wds.new s w T
  have hpl := pcs_len s
  have hlen : (Lib.splitB (bs [46]) 0 (min 129 ((bs s).size + 1) - 1) (bs s)).length = (pcs s).length := by rw [← pcsB s, List.length_map]
  rw [hlen] at hSP
  have HSP := Lib.hid hSP
  have HW := Lib.hid hW
  clear hSP hW hlen
  have HN := Lib.hid (fun x (hx : x ∈ pcs s) w1 (h : Tabs w1) => onumber_walk x (Nat.le_trans (pcs_le s x hx) hs) w1 h)
  have HT := Lib.hid T
  have HPL := Lib.hid hpl
  have hmk := run_make_row' (P := Tryz.prog) 134 3 (.int .i64 0) 8 Tryz.underlying134 made_info rfl .i64 .i64 (pcs s).length (by omega) (by omega)
  have hn1 : ((pcs s).length : Int) ≤ 129 := by omega
  unfold ArPost
  clear hpl T hm
  go_enter Tryz.func85, Tryz.ntmps85
  go_wp2_with (go_at_call 110; refine HSP.out.mono ?_)
  rintro e w1 ⟨rfl, hw1⟩
  have hA1 : Wds w1 w.heap.size (pcs s) := by rw [hw1]; exact HW.out _
  have hb1 : Below w.heap.size w w1 := by rw [hw1]; exact (Below.refl _ _).alloc (Nat.le_refl _) _
  have hga : w.heap.size < w1.heap.size := hA1.1
  clear hw1 HSP HW
  go_wp2
  have hF : (w1.alloc (.cells (madeCells #[.int .i64 0] (pcs s).length) 3)).heap[w1.heap.size]? = some (.cells (fil [] (pcs s).length) 3 (0, 0)) := by rw [← fil_nil]; exact rowNew w1 _
  have hA2 := hA1.below ((Below.refl w1.heap.size w1).alloc (Nat.le_refl _) (.cells (madeCells #[.int .i64 0] (pcs s).length) 3))
  have hb2 := hb1.alloc hb1.size (.cells (madeCells #[.int .i64 0] (pcs s).length) 3)
  clear hmk hA1 hb1
  generalize w1.alloc (.cells (madeCells #[.int .i64 0] (pcs s).length) 3) = w2 at *
  generalize w1.heap.size = ga at *
  go_loopg [17] (pcs s).length (fun g v17 wr => ArLp s w w.heap.size ga g v17 wr)
  case atStart => exact ⟨[], by simp, rfl, fun j hj => by simp at hj, hA2, hF, hb2⟩
  case round =>
    clear hA2 hF hb2
    obtain ⟨done, hig, rfl, hall, hA, hF, hb⟩ := hrel
    have HAL := Lib.hid hall
    clear hall
    cases gk with
    | succ g =>
      have hin : done.length < (pcs s).length := by omega
      have hcell := hA.2 done.length hin
      have hTr := HT.out.below hb
      have hNr := HN.out _ (getD_mem hin) wr hTr
      unfold NrPost at hNr
      have HBAD := Lib.hid (fun (h : nr ((pcs s).getD done.length []) = none) => nrs_bad (getD_mem hin) h)
      cases hx : nr ((pcs s).getD done.length []) with
      | none =>
        rw [hx] at hNr
        have har : arcs s = none := by rw [arcs_pcs, HBAD.out hx]
        have HAR := Lib.hid (ar_none har)
        have HNR := Lib.hid hNr
        clear hNr hx HBAD har hF hA hTr
        generalize (pcs s).getD done.length [] = x at *
        go_wp2_with fail
        refine HNR.out.mono ?_
        rintro e w3 ⟨rfl, b3⟩
        have hb3 := hb.trans (b3.mono hb.size)
        go_wp2
        go_ret2
        rw [HAR.out.1, HAR.out.2]
        exact ⟨_, rfl, OwnI.nil _ _ _, hb3⟩
      | some v =>
        rw [hx] at hNr
        have HX := Lib.hid hx
        have HNR := Lib.hid hNr
        have hA' := Lib.hid hA
        have hF' := Lib.hid hF
        clear hNr HBAD hTr hA hF
        generalize hgx : (pcs s).getD done.length [] = x at hcell HNR
        have HGX := Lib.hid hgx
        clear hgx hx
        go_wp2_with fail
        refine HNR.out.mono ?_
        rintro e w3 ⟨rfl, b3⟩
        have hb3 := hb.trans (b3.mono hb.size)
        have hA3 := hA'.out.below b3
        have hF3 := (b3.block ga (lt_of_block hF'.out)).trans hF'.out
        have HF3 := Lib.hid hF3
        have HA3 := Lib.hid hA3
        have hfs := fil_size done (pcs s).length (by omega)
        obtain ⟨y, hc0⟩ : ∃ x, w3.cell? ⟨ga, done.length, none⟩ = some x := ⟨(fil done (pcs s).length)[done.length]'(by omega), by simp [World.cell?, hF3, hfs, hin]⟩
        have hfr : w3.frozen? ⟨ga, done.length, none⟩ = false := freeRow hF3 done.length
        clear hF3 hA3 hcell hF' hA' hb b3 hfs HNR
        go_wp2
        go_roundg g
        case measure => omega
        case rel =>
          refine ⟨done ++ [v], by simp; omega, by simp, fun j hj => ?_, ?_, ?_, hb3.setCell (p := ⟨ga, done.length, none⟩) (Nat.le_of_lt hga) _⟩
          · rw [List.length_append, List.length_singleton] at hj
            rcases Nat.lt_or_ge j done.length with h1 | h1
            · rw [HAL.out j h1]
              simp [List.getD, List.getElem?_append_left h1]
            · obtain rfl : j = done.length := by omega
              rw [HX.out]
              simp [List.getD]
          · exact ⟨by have := HA3.out.1; simpa using this, fun i hi => (World.cell?_of_block (Below.heap_setCell _ _ _ _ (by show w.heap.size ≠ ga; omega))).trans (HA3.out.2 i hi)⟩
          · rw [← fil_set done _ v hin]
            exact rowSet HF3.out _ _
    | zero =>
      have hlen : (pcs s).length = done.length := by omega
      have hnrs := nrs_good hlen (fun i hi => HAL.out i hi)
      have har : arcs s = if isArcs done then some done else none := by rw [arcs_pcs, hnrs]
      have hd : done.length ≤ 129 := by omega
      rw [hlen] at hF
      have hO := fil_own (B := w.heap.size) (Nat.le_of_lt hga) (by omega) hF
      have hz := isZ_fz done
      have hAr := Lib.hid (fun w1 (h : OwnI w1 w.heap.size 3 (.slice (some ⟨ga, 0, none⟩) done.length done.length) done) => areArcs_walk (some ⟨ga, 0, none⟩) done.length done.length (fz done) (by omega) w1 (by
        obtain ⟨ao, cap, hv, hr⟩ := RdZ.ofOwn h
        injection hv with h1 h2 h3
        rw [h1]; exact hr))
      clear hA hF hnrs HN HAL HPL hig
      rw [hz] at hAr
      generalize (pcs s).length = N at *
      subst hlen
      cases hi : isArcs done
      · rw [hi] at hAr har
        have HAR := Lib.hid (ar_none har)
        clear har hi hz
        go_wp2_with fail
        refine (hAr.out wr hO).mono ?_
        rintro e w3 ⟨rfl, q, rfl⟩
        have hb3 := Below_drewNg hb q
        go_wp2
        go_ret2
        rw [HAR.out.1, HAR.out.2]
        exact ⟨_, rfl, OwnI.nil _ _ _, hb3⟩
      · rw [hi] at hAr har
        have HAR := Lib.hid (ar_some har)
        clear har hi hz
        go_wp2_with fail
        refine (hAr.out wr hO).mono ?_
        rintro e w3 ⟨rfl, q, rfl⟩
        have hb3 := Below_drewNg hb q
        have hO3 := hO.drewN q
        go_wp2
        go_ret2
        rw [HAR.out.1, HAR.out.2]
        exact ⟨_, rfl, hO3, hb3⟩
end Go.Proofs.YtmdibafofdghgaaGreatDoor
/- value's mayBe, Check, walked. -/
namespace Go.Proofs.YtmdibafofdghgaaGreatDoor
open Go.ChangeShapes Go.WideShapes Go.ChangeAt Go.RowKit K P1 B5
set_option linter.unusedVariables false

open V7 in
/-- What the program looks at, one after the other, and the answer. -/
inductive Mb : Int → Int → List UInt8 → Bool → Prop
  | i1 {n s} (h1 : s.isEmpty = false) : Mb 2 n s false
  | i2 {n s} (h1 : s.isEmpty = true) (h2 : n < -2147483648) : Mb 2 n s false
  | i3 {n s b} (h1 : s.isEmpty = true) (h2 : -2147483648 ≤ n) (h3 : decide (n ≤ 2147483647) = b) : Mb 2 n s b
  | c1 {k n s} (hk : k = 65 ∨ k = 66 ∨ k = 67) (h1 : n < 0) : Mb k n s false
  | c2 {k n s} (hk : k = 65 ∨ k = 66 ∨ k = 67) (h1 : 0 ≤ n) (h2 : 4294967295 < n) : Mb k n s false
  | c3 {k n s b} (hk : k = 65 ∨ k = 66 ∨ k = 67) (h1 : 0 ≤ n) (h2 : n ≤ 4294967295) (h3 : s.isEmpty = b) : Mb k n s b
  | g {n s b} (h1 : s.isEmpty = b) : Mb 70 n s b
  | n1 {n s} (h1 : (n == 0) = false) : Mb 5 n s false
  | n2 {n s b} (h1 : (n == 0) = true) (h2 : s.isEmpty = b) : Mb 5 n s b
  | o1 {n s} (h1 : (n == 0) = false) : Mb 6 n s false
  | o2 {n s b} (h1 : (n == 0) = true) (h2 : (O6.arcs s).isSome = b) : Mb 6 n s b
  | d1 {n s} (h1 : (((s.length : Nat) : Int) == 4) = false) (h2 : (((s.length : Nat) : Int) != 4) = true) : Mb 64 n s false
  | d2 {n s} (h1 : (((s.length : Nat) : Int) == 4) = true) (h2 : (((s.length : Nat) : Int) != 4) = false) (h3 : (n == 0) = false) : Mb 64 n s false
  | d3 {n s} (h1 : (((s.length : Nat) : Int) == 4) = true) (h2 : (((s.length : Nat) : Int) != 4) = false) (h3 : (n == 0) = true) (h4 : ((s.length : Nat) : Int) ≤ 65535) : Mb 64 n s true
  | a1 {k n s} (hk : k = 4 ∨ k = 68) (h1 : (n == 0) = false) : Mb k n s false
  | a2 {k n s b} (hk : k = 4 ∨ k = 68) (h1 : (n == 0) = true) (h2 : decide (((s.length : Nat) : Int) ≤ 65535) = b) : Mb k n s b
  | z {k n s} (h1 : (k == 2) = false) (h2 : (k == 4) = false) (h3 : (k == 68) = false) (h4 : (k == 5) = false) (h5 : (k == 6) = false) (h6 : (k == 64) = false) (h7 : (k == 65) = false) (h8 : (k == 66) = false) (h9 : (k == 67) = false) (h10 : (k == 70) = false) : Mb k n s false
open V7 in
theorem mb_all (k n : Int) (s : List UInt8) : Mb k n s (ckV k n s) := by
  by_cases k2 : k = 2
  · subst k2
    cases h1 : s.isEmpty
    · rw [show ckV 2 n s = false by simp [ckV, h1]]; exact .i1 h1
    · by_cases h2 : -2147483648 ≤ n
      · rw [show ckV 2 n s = decide (n ≤ 2147483647) by simp [ckV, h1, h2]]; exact .i3 h1 h2 rfl
      · rw [show ckV 2 n s = false by simp [ckV, h1, h2]]; exact .i2 h1 (by omega)
  by_cases k4 : k = 4 ∨ k = 68
  · have hv : ckV k n s = (n == 0 && decide (s.length ≤ 65535)) := by unfold ckV; rw [if_neg k2, if_pos k4]
    cases h1 : (n == 0)
    · rw [show ckV k n s = false by rw [hv, h1]; rfl]; exact .a1 k4 h1
    · rw [show ckV k n s = decide (((s.length : Nat) : Int) ≤ 65535) by rw [hv, h1, Bool.true_and]; exact decide_eq_decide.2 (by omega)]; exact .a2 k4 h1 rfl
  by_cases k5 : k = 5
  · subst k5
    cases h1 : (n == 0)
    · rw [show ckV 5 n s = false by simp [ckV, h1]]; exact .n1 h1
    · rw [show ckV 5 n s = s.isEmpty by simp [ckV, h1]]; exact .n2 h1 rfl
  by_cases k6 : k = 6
  · subst k6
    cases h1 : (n == 0)
    · rw [show ckV 6 n s = false by simp [ckV, h1]]; exact .o1 h1
    · rw [show ckV 6 n s = (O6.arcs s).isSome by simp [ckV, h1]]; exact .o2 h1 rfl
  by_cases k64 : k = 64
  · subst k64
    by_cases h1 : s.length = 4
    · have e1 : (((s.length : Nat) : Int) == 4) = true := by rw [beq_iff_eq]; omega
      have e2 : (((s.length : Nat) : Int) != 4) = false := by unfold bne; rw [e1]; rfl
      cases h3 : (n == 0)
      · rw [show ckV 64 n s = false by simp [ckV, h3]]; exact .d2 e1 e2 h3
      · rw [show ckV 64 n s = true by simp [ckV, h1, h3]]; exact .d3 e1 e2 h3 (by omega)
    · have e1 : (((s.length : Nat) : Int) == 4) = false := by rw [beq_eq_false_iff_ne]; omega
      have e2 : (((s.length : Nat) : Int) != 4) = true := by unfold bne; rw [e1]; rfl
      rw [show ckV 64 n s = false by simp [ckV, h1]]; exact .d1 e1 e2
  by_cases k65 : k = 65 ∨ k = 66 ∨ k = 67
  · have hv : ckV k n s = (s.isEmpty && (decide (0 ≤ n) && decide (n ≤ 4294967295))) := by
      unfold ckV
      rw [if_neg k2, if_neg k4, if_neg k5, if_neg k6, if_neg k64, if_pos k65]
    by_cases h2 : 0 ≤ n
    · by_cases h3 : n ≤ 4294967295
      · rw [show ckV k n s = s.isEmpty by rw [hv]; simp [h2, h3]]; exact .c3 k65 h2 h3 rfl
      · rw [show ckV k n s = false by rw [hv]; simp [h3]]; exact .c2 k65 h2 (by omega)
    · rw [show ckV k n s = false by rw [hv]; simp [h2]]; exact .c1 k65 (by omega)
  by_cases k70 : k = 70
  · subst k70
    rw [show ckV 70 n s = s.isEmpty by simp [ckV]]; exact .g rfl
  have hv : ckV k n s = false := by
    unfold ckV
    rw [if_neg k2, if_neg k4, if_neg k5, if_neg k6, if_neg k64, if_neg k65, if_neg k70]
  rw [hv]
  have e : ∀ c : Int, ¬ k = c → (k == c) = false := fun c h => beq_eq_false_iff_ne.2 h
  exact .z (e _ k2) (e _ (by omega)) (e _ (by omega)) (e _ k5) (e _ k6) (e _ k64) (e _ (by omega)) (e _ (by omega)) (e _ (by omega)) (e _ k70)
set_option maxRecDepth 100000 in
set_option maxHeartbeats 4000000 in
theorem mayBe_walk (k n : Int) (s : List UInt8) (hs : s.length ≤ 1000000) (w : World) (T : Tabs w) :
    Calls Tryz.prog 113 #[.agg #[.int .i64 k, .int .i64 n, .string (bs s)]] w fun e w' => e = .returned (.bool (V7.ckV k n s)) ∧ Below w.heap.size w w' := by
  have h := mb_all k n s
  generalize V7.ckV k n s = c at h ⊢
  have hba := alloc_in w (.cells #[.int .i64 k, .int .i64 n, .string (bs s)] 46)
  cases h
  case o1 h1 =>
    have HA := Lib.hid (arcs_walk s hs _ (T.below hba))
    unfold ArPost at HA
    generalize arE s = E at *
    go_enter Tryz.func113, Tryz.ntmps113
    go_wp2_with fail
    refine HA.out.mono ?_
    rintro e w1 ⟨va, rfl, hoa, hb1⟩
    obtain ⟨z0, z1, z2⟩ := (Vr.new w 6 n s).below hb1
    go_wp2
    go_ret
    exact ⟨rfl, Below_in hb1⟩
  case o2 h1 h2 =>
    have HA := Lib.hid (arcs_walk s hs _ (T.below hba))
    unfold ArPost at HA
    have hq : (((arE s : Nat) : Int) == 0) = c := by
      rw [← h2]
      cases hx : O6.arcs s with
      | none => rw [(ar_none hx).1]; rfl
      | some l => rw [(ar_some hx).1]; rfl
    generalize arE s = E at *
    go_enter Tryz.func113, Tryz.ntmps113
    go_wp2_with fail
    refine HA.out.mono ?_
    rintro e w1 ⟨va, rfl, hoa, hb1⟩
    obtain ⟨z0, z1, z2⟩ := (Vr.new w 6 n s).below hb1
    go_wp2
    go_ret
    exact ⟨by rw [← hq]; rfl, Below_in hb1⟩
  case c1 hk h1 =>
    rcases hk with rfl | rfl | rfl
    all_goals
      go_enter Tryz.func113, Tryz.ntmps113
      go_wp2
      go_ret
      exact ⟨rfl, hba⟩
  case c2 hk h1 h2 =>
    rcases hk with rfl | rfl | rfl
    all_goals
      go_enter Tryz.func113, Tryz.ntmps113
      go_wp2
      go_ret
      exact ⟨rfl, hba⟩
  case c3 hk h1 h2 h3 =>
    rcases hk with rfl | rfl | rfl
    all_goals
      go_enter Tryz.func113, Tryz.ntmps113
      go_wp2
      go_ret
      exact ⟨rfl, hba⟩
  case a1 hk h1 =>
    rcases hk with rfl | rfl
    all_goals
      go_enter Tryz.func113, Tryz.ntmps113
      go_wp2
      go_ret
      exact ⟨rfl, hba⟩
  case a2 hk h1 h2 =>
    rcases hk with rfl | rfl
    all_goals
      go_enter Tryz.func113, Tryz.ntmps113
      go_wp2
      go_ret
      exact ⟨rfl, hba⟩
  all_goals
    go_enter Tryz.func113, Tryz.ntmps113
    go_wp2
    go_ret
    exact ⟨rfl, hba⟩
theorem check_walk7 (k n : Int) (s : List UInt8) (hs : s.length ≤ 1000000) (w : World) (T : Tabs w) :
    Calls Tryz.prog 86 #[.agg #[.int .i64 k, .int .i64 n, .string (bs s)]] w fun e w' => e = .returned (.int .i64 (V7.ckE k n s : Nat)) ∧ Below w.heap.size w w' := by
  have hba := alloc_in w (.cells #[.int .i64 k, .int .i64 n, .string (bs s)] 46)
  have hM := mayBe_walk k n s hs _ (T.below hba)
  unfold V7.ckE
  cases h : V7.ckV k n s
  all_goals
    rw [h] at hM
    have HM := Lib.hid hM
    clear hM
    go_enter Tryz.func86, Tryz.ntmps86
    go_wp2_with fail
    refine HM.out.mono ?_
    rintro e w1 ⟨rfl, hb1⟩
    go_wp2
    go_ret
    exact ⟨rfl, Below_in hb1⟩
end Go.Proofs.YtmdibafofdghgaaGreatDoor
/- pdu's isTag, numbersOf, mayBe, areBinds, Check, walked. -/
namespace Go.Proofs.YtmdibafofdghgaaGreatDoor
open Go.ChangeShapes Go.WideShapes Go.ChangeAt Go.RowKit K P1 B5
open D8 (Bd Un lst)
set_option linter.unusedVariables false

/-- What the variable 'least' holds. -/
def Least (w : World) : Prop := w.cell? ⟨1, 0, none⟩ = some (.int .i64 (-2147483648)) ∧ w.cell? ⟨1, 1, none⟩ = some (.int .i64 0) ∧ w.cell? ⟨1, 2, none⟩ = some (.int .i64 0)
theorem Least.below {w w' : World} (h : Least w) (k : Below w.heap.size w w') : Least w' :=
  ⟨(k.cell (World.block_lt_of_cell? w _ h.1)).trans h.1, (k.cell (World.block_lt_of_cell? w _ h.2.1)).trans h.2.1, (k.cell (World.block_lt_of_cell? w _ h.2.2)).trans h.2.2⟩
/-- The variables that the program reads. -/
def Tp (w : World) : Prop := Tabs w ∧ Least w
theorem Tp.below {w w' : World} (h : Tp w) (k : Below w.heap.size w w') : Tp w' := ⟨h.1.below k, h.2.below k⟩
theorem istag8_walk (n : Int) (w : World) :
    Calls Tryz.prog 57 #[.int .i64 n] w fun e w' => e = .returned (.bool (n == 162 || (n == 166 || n == 167))) ∧ w = w' := by
  have e : ∀ c : Int, ¬ n = c → (n == c) = false := fun c h => beq_eq_false_iff_ne.2 h
  by_cases h1 : n = 162
  · subst h1
    go_enter Tryz.func57, Tryz.ntmps57
    go_wp2
    go_ret
    exact ⟨rfl, rfl⟩
  by_cases h2 : n = 166
  · subst h2
    go_enter Tryz.func57, Tryz.ntmps57
    go_wp2
    go_ret
    exact ⟨rfl, rfl⟩
  by_cases h3 : n = 167
  · subst h3
    go_enter Tryz.func57, Tryz.ntmps57
    go_wp2
    go_ret
    exact ⟨rfl, rfl⟩
  have e1 := e 162 h1
  have e2 := e 166 h2
  have e3 := e 167 h3
  rw [e1, e2, e3]
  clear e h1 h2 h3
  go_enter Tryz.func57, Tryz.ntmps57
  go_wp2
  go_ret
  exact ⟨rfl, rfl⟩
set_option maxRecDepth 100000 in
theorem numbersof_walk (t r a i : Int) (ao : Option Addr) (len cap : Nat) (w : World) :
    Calls Tryz.prog 43 #[.agg #[.int .i64 t, .int .i64 r, .int .i64 a, .int .i64 i, .slice ao len cap]] w fun e w' => e = .returned (.agg #[.int .i64 r, .int .i64 a, .int .i64 i]) ∧ Below w.heap.size w w' := by
  go_enter Tryz.func43, Tryz.ntmps43
  go_wp2
  have PX := rowNew (w.alloc (.cells #[.int .i64 t, .int .i64 r, .int .i64 a, .int .i64 i, .slice ao len cap] 41)) (.cells #[.int .i64 r, .int .i64 a, .int .i64 i] 81)
  rw [show (w.alloc (.cells #[.int .i64 t, .int .i64 r, .int .i64 a, .int .i64 i, .slice ao len cap] 41)).heap.size = w.heap.size + 1 by simp] at PX
  refine bodyPost_ret (results_cell_row rfl _ _ (w.heap.size + 1) _ _ _ _ rfl PX Tryz.underlying81 rfl (by kernel_rfl)) rfl ?_
  exact ⟨rfl, ((Below.refl _ _).alloc (Nat.le_refl _) _).alloc (by simp) _⟩
set_option maxRecDepth 100000 in
theorem numbers_at (r a i : Int) (w : World) : (Instr.index 81 (.agg #[.int .i64 r, .int .i64 a, .int .i64 i]) (.int .i64 0)).run Tryz.prog w = .ok (.int .i64 r) w ∧ (Instr.index 81 (.agg #[.int .i64 r, .int .i64 a, .int .i64 i]) (.int .i64 1)).run Tryz.prog w = .ok (.int .i64 a) w ∧
    (Instr.index 81 (.agg #[.int .i64 r, .int .i64 a, .int .i64 i]) (.int .i64 2)).run Tryz.prog w = .ok (.int .i64 i) w :=
  ⟨by kernel_rfl, by kernel_rfl, by kernel_rfl⟩
def nb (r a i : Int) : Bool := (decide (-2147483648 ≤ r) && decide (r ≤ 2147483647)) && ((decide (0 ≤ a) && decide (a ≤ 2147483647)) && (decide (0 ≤ i) && decide (i ≤ 2147483647)))
theorem nb_iff (r a i : Int) : nb r a i = true ↔ (-2147483648 ≤ r ∧ r ≤ 2147483647) ∧ (0 ≤ a ∧ a ≤ 2147483647) ∧ (0 ≤ i ∧ i ≤ 2147483647) := by
  unfold nb; simp only [Bool.and_eq_true, decide_eq_true_eq]
theorem nb_not {r a i : Int} (h : ¬ ((-2147483648 ≤ r ∧ r ≤ 2147483647) ∧ (0 ≤ a ∧ a ≤ 2147483647) ∧ (0 ≤ i ∧ i ≤ 2147483647))) : nb r a i = false := by
  cases hx : nb r a i
  · rfl
  · exact absurd ((nb_iff r a i).1 hx) h
theorem cellRowF {w : World} {b : Nat} {C : Array Value} {t : TypeId} {fr : Nat × Nat} (h : w.heap[b]? = some (.cells C t fr)) (i : Nat) : w.cell? ⟨b, i, none⟩ = C[i]? := by simp [World.cell?, h]
def MbRel (r a i : Int) (w : World) (g : Nat) (v : Value) (wr : World) : Prop :=
  ∃ k : Nat, k + g = 3 ∧ v = .int .i64 (k : Nat) ∧ (1 ≤ k → -2147483648 ≤ r ∧ r ≤ 2147483647) ∧ (2 ≤ k → 0 ≤ a ∧ a ≤ 2147483647) ∧ (3 ≤ k → 0 ≤ i ∧ i ≤ 2147483647) ∧ Below w.heap.size w wr
set_option maxRecDepth 100000 in
set_option maxHeartbeats 1000000 in
theorem maybe8_walk (r a i : Int) (w : World) (hL : Least w) :
    Calls Tryz.prog 58 #[.agg #[.int .i64 r, .int .i64 a, .int .i64 i]] w fun e w' => e = .returned (.bool (nb r a i)) ∧ Below w.heap.size w w' := by
  have HLL := Lib.hid hL
  clear hL
  have hba := alloc_in w (.cells #[.int .i64 r, .int .i64 a, .int .i64 i] 81)
  go_enter Tryz.func58, Tryz.ntmps58
  go_wp2
  go_loopg [6] 3 (fun g v wr => MbRel r a i w g v wr)
  case atStart => exact ⟨0, by omega, rfl, by omega, by omega, by omega, hba⟩
  case round =>
    obtain ⟨k, hk, rfl, h1, h2, h3, hb⟩ := hrel
    obtain ⟨c0, c1, c2⟩ := HLL.out.below hb
    clear hba
    have hx0 := fun w1 => (numbers_at r a i w1).1
    have hx1 := fun w1 => (numbers_at r a i w1).2.1
    have hx2 := fun w1 => (numbers_at r a i w1).2.2
    cases gk with
    | zero =>
      obtain rfl : k = 3 := by omega
      have HE := Lib.hid ((nb_iff r a i).2 ⟨h1 (by omega), h2 (by omega), h3 (by omega)⟩)
      clear h1 h2 h3
      go_wp2
      go_ret
      exact ⟨by rw [HE.out]; rfl, hb⟩
    | succ g =>
      obtain rfl | rfl | rfl : k = 0 ∨ k = 1 ∨ k = 2 := by omega
      · clear h1 h2 h3
        by_cases l0 : r < -2147483648
        · have HE := Lib.hid (nb_not (r := r) (a := a) (i := i) (by omega))
          go_wp2
          go_ret
          exact ⟨by rw [HE.out]; rfl, hb⟩
        have l0' : -2147483648 ≤ r := by omega
        by_cases l1 : 2147483647 < r
        · have HE := Lib.hid (nb_not (r := r) (a := a) (i := i) (by omega))
          clear l0
          go_wp2
          go_ret
          exact ⟨by rw [HE.out]; rfl, hb⟩
        have l1' : r ≤ 2147483647 := by omega
        clear l0 l1
        go_wp2
        go_roundg g
        case measure => omega
        case rel => exact ⟨1, by omega, by simp, fun _ => ⟨l0', l1'⟩, by omega, by omega, hb⟩
      · have h1' := h1 (by omega)
        clear h1 h2 h3
        by_cases l0 : a < 0
        · have HE := Lib.hid (nb_not (r := r) (a := a) (i := i) (by omega))
          go_wp2
          go_ret
          exact ⟨by rw [HE.out]; rfl, hb⟩
        have l0' : 0 ≤ a := by omega
        by_cases l1 : 2147483647 < a
        · have HE := Lib.hid (nb_not (r := r) (a := a) (i := i) (by omega))
          clear l0
          go_wp2
          go_ret
          exact ⟨by rw [HE.out]; rfl, hb⟩
        have l1' : a ≤ 2147483647 := by omega
        clear l0 l1
        go_wp2
        go_roundg g
        case measure => omega
        case rel => exact ⟨2, by omega, by simp, fun _ => h1', fun _ => ⟨l0', l1'⟩, by omega, hb⟩
      · have h1' := h1 (by omega)
        have h2' := h2 (by omega)
        clear h1 h2 h3
        by_cases l0 : i < 0
        · have HE := Lib.hid (nb_not (r := r) (a := a) (i := i) (by omega))
          go_wp2
          go_ret
          exact ⟨by rw [HE.out]; rfl, hb⟩
        have l0' : 0 ≤ i := by omega
        by_cases l1 : 2147483647 < i
        · have HE := Lib.hid (nb_not (r := r) (a := a) (i := i) (by omega))
          clear l0
          go_wp2
          go_ret
          exact ⟨by rw [HE.out]; rfl, hb⟩
        have l1' : i ≤ 2147483647 := by omega
        clear l0 l1
        go_wp2
        go_roundg g
        case measure => omega
        case rel => exact ⟨3, by omega, by simp, fun _ => h1', fun _ => h2', fun _ => ⟨l0', l1'⟩, hb⟩
end Go.Proofs.YtmdibafofdghgaaGreatDoor
