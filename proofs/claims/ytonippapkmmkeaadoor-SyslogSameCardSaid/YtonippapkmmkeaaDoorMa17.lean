/- Texts on the program and on the document, joined: QuqB, Blw, Bld. -/
import Derived.Test.YtonippapkmmkeaaDoorMa11
import Derived.Test.YtonippapkmmkeaaDoorRows
import Derived.Test.YtonippapkmmkeaaDoorMa01
import Derived.Test.YtonippapkmmkeaaDoorShelf
import Derived.ProofKit
/- The program's reader of structured data, walked: cut, took, mark, name. -/
namespace Go.Proofs.YtonippapkmmkeaaDoor
open Go.ChangeShapes Go.WideShapes Go.ChangeAt Go.RowKit K Q10
set_option linter.unusedVariables false

/-- A reader in block b: what is left, and whether it is dead. -/
def RQ (w : World) (b : Nat) (s : List UInt8) (g : Bool) : Prop := w.heap[b]? = some (.cells #[.string (bs s), .bool g] 82 (0, 0))
theorem RQ.cells {w : World} {b : Nat} {s : List UInt8} {g : Bool} (h : RQ w b s g) :
    w.cell? ⟨b, 0, none⟩ = some (.string (bs s)) ∧ w.cell? ⟨b, 1, none⟩ = some (.bool g) ∧ w.frozen? ⟨b, 0, none⟩ = false ∧ w.frozen? ⟨b, 1, none⟩ = false :=
  ⟨cellRow h 0, cellRow h 1, freeRow h 0, freeRow h 1⟩
theorem RQ.set0 {w : World} {b : Nat} {s : List UInt8} {g : Bool} (h : RQ w b s g) (t : List UInt8) : RQ (w.setCell ⟨b, 0, none⟩ (.string (bs t))) b t g := by
  have := rowSet h 0 (.string (bs t)); simpa [RQ] using this
theorem RQ.set1 {w : World} {b : Nat} {s : List UInt8} {g : Bool} (h : RQ w b s g) (t : Bool) : RQ (w.setCell ⟨b, 1, none⟩ (.bool t)) b s t := by
  have := rowSet h 1 (.bool t); simpa [RQ] using this
theorem RQ.kp {w w' : World} {b : Nat} {s : List UInt8} {g : Bool} (h : RQ w b s g) {S : List Nat} (k : Kp S w w') (hn : b ∉ S) : RQ w' b s g := k.heap h hn
/-- The same: what lives has a rest, what is dead has none. -/
def RO (w : World) (b : Nat) (r : Option (List UInt8)) : Prop := RQ w b (rst r) r.isNone
set_option maxRecDepth 100000 in
theorem rcut_walk (b : Nat) (s : List UInt8) (g : Bool) (n : Nat) (hn : n ≤ s.length) (hs : s.length ≤ 140737488351232) (w : World) (h : RQ w b s g) :
    Calls Tryd.prog 67 #[.pointer (some ⟨b, 0, none⟩), .int .i64 (n : Nat)] w fun e w' => e = .returned (.string (bs (s.take n))) ∧ Kp [b] w w' ∧ RQ w' b (s.drop n) g := by
  obtain ⟨c0, c1, f0, f1⟩ := h.cells
  have H := Lib.hid h; clear h
  go_enter Tryd.func67, Tryd.ntmps67
  go_wp2
  go_ret
  exact ⟨rfl, (Kp.refl _ _).set _ (by simp) _, H.out.set0 _⟩
theorem RO.some {w : World} {b : Nat} {s : List UInt8} (h : RO w b (some s)) : RQ w b s false := h
theorem RO.none {w : World} {b : Nat} (h : RO w b none) : RQ w b [] true := h
/-- What is left, however it stands: no longer than n. -/
def Rl (n : Nat) (r : Option (List UInt8)) : Prop := (rst r).length ≤ n
/-- What took leaves. -/
def tkR (c : UInt8) (r : Option (List UInt8)) : Option (List UInt8) := match tk c r with | some t => some t | none => r
set_option maxRecDepth 100000 in
theorem rtook_walk (b : Nat) (c : UInt8) (r : Option (List UInt8)) (hs : Rl 140737488351232 r) (w : World) (h : RO w b r) :
    Calls Tryd.prog 51 #[.pointer (some ⟨b, 0, none⟩), .int .u8 (c.toNat : Nat)] w fun e w' => e = .returned (.bool (tk c r).isSome) ∧ Kp [b] w w' ∧ RO w' b (tkR c r) := by
  unfold RO at h
  obtain ⟨c0, c1, f0, f1⟩ := h.cells
  by_cases hr : ∃ t, r = some (c :: t)
  · obtain ⟨t, rfl⟩ := hr
    have HC := Lib.hid (rcut_walk b (c :: t) false 1 (by simp) hs w h)
    have e1 : tk c (some (c :: t)) = some t := tk_self c t
    have e2 : tkR c (some (c :: t)) = some t := by unfold tkR; rw [e1]
    have hb : byt (c :: t) 0 = c.toNat := rfl
    have hne : (c :: t).isEmpty = false := rfl
    have hpos : 0 < (c :: t).length := by simp
    have HD := Lib.hid (show (c :: t).drop 1 = t from rfl)
    rw [e1, e2]
    simp only [rst, Option.getD_some] at c0
    clear h f0 f1 e1 e2 hs
    generalize (c :: t) = L at *
    go_enter Tryd.func51, Tryd.ntmps51
    go_wp2_with fail
    refine HC.out.mono ?_
    rintro e w1 ⟨rfl, k1, h1⟩
    rw [HD.out] at h1
    go_wp2
    go_ret
    exact ⟨rfl, k1, h1⟩
  · have e1 : tk c r = none := by
      cases ht : tk c r with
      | none => rfl
      | some t => exact absurd ⟨t, tk_eq ht⟩ hr
    have e2 : tkR c r = r := by unfold tkR; rw [e1]
    have H := Lib.hid (show RO w b r from h)
    have hq : rst r = [] ∨ ((rst r).isEmpty = false ∧ 0 < (rst r).length ∧ byt (rst r) 0 ≠ c.toNat) := by
      cases r with
      | none => exact .inl rfl
      | some s => cases s with
        | nil => exact .inl rfl
        | cons x t => exact .inr ⟨rfl, by simp [rst], fun e => hr ⟨t, by rw [show x = c from UInt8.toNat_inj.1 e]⟩⟩
    rw [e1, e2]
    clear h f0 f1 e1 e2 hs hr c1
    rcases hq with h0 | ⟨hne, hpos, hb⟩
    · rw [h0] at c0
      go_enter Tryd.func51, Tryd.ntmps51
      go_wp2
      go_ret
      exact ⟨rfl, Kp.refl _ _, H.out⟩
    · have hb2 : (((byt (rst r) 0 : Nat) : Int) == ((c.toNat : Nat) : Int)) = false := by rw [beq_eq_false_iff_ne]; omega
      clear hb
      generalize hL : rst r = L at *
      have HL := Lib.hid hL
      clear hL
      go_enter Tryd.func51, Tryd.ntmps51
      go_wp2
      go_ret
      exact ⟨rfl, Kp.refl _ _, H.out⟩
theorem tkR_mk (c : UInt8) (r : Option (List UInt8)) (h : (tk c r).isSome = true) : tkR c r = mk1 c r := by
  unfold tkR
  cases ht : tk c r with
  | none => rw [ht] at h; cases h
  | some t => rw [tk_eq ht]; exact (mk1_self c t).symm
theorem mk1_no (c : UInt8) (r : Option (List UInt8)) (h : (tk c r).isSome = false) : mk1 c r = none := by
  cases hm : mk1 c r with
  | none => rfl
  | some t => rw [mk1_eq hm, tk_self] at h; cases h
set_option maxRecDepth 100000 in
theorem rmark_walk (b : Nat) (c : UInt8) (r : Option (List UInt8)) (hs : Rl 140737488351232 r) (w : World) (h : RO w b r) :
    Calls Tryd.prog 70 #[.pointer (some ⟨b, 0, none⟩), .int .u8 (c.toNat : Nat)] w fun e w' => e = .returned (.tuple #[]) ∧ Kp [b] w w' ∧ RO w' b (mk1 c r) := by
  have HT := Lib.hid (rtook_walk b c r hs w h)
  have HY := Lib.hid (tkR_mk c r)
  have HN := Lib.hid (mk1_no c r)
  clear h hs
  cases ht : (tk c r).isSome
  · have HN2 := Lib.hid (HN.out ht)
    rw [ht] at HT
    clear ht
    generalize (c.toNat : Nat) = n at *
    go_enter Tryd.func70, Tryd.ntmps70
    go_wp2_with fail
    refine HT.out.mono ?_
    rintro e w1 ⟨rfl, k1, h1⟩
    unfold RO at h1
    obtain ⟨c0, c1, f0, f1⟩ := h1.cells
    have H1 := Lib.hid h1
    clear h1
    go_wp2
    go_end0
    rw [HN2.out]
    exact ⟨rfl, (k1.set _ (by simp) _).set _ (by simp) _, (H1.out.set0 []).set1 true⟩
  · have HN2 := Lib.hid (HY.out ht)
    rw [ht] at HT
    clear ht
    generalize (c.toNat : Nat) = n at *
    go_enter Tryd.func70, Tryd.ntmps70
    go_wp2_with fail
    refine HT.out.mono ?_
    rintro e w1 ⟨rfl, k1, h1⟩
    go_wp2
    go_end0
    rw [← HN2.out]
    exact ⟨rfl, k1, h1⟩
theorem nmQ_drop (s : List UInt8) : s.drop (nmP s).length = nmQ s ∧ s.take (nmP s).length = nmP s := by
  have h := nmP_split s
  refine ⟨?_, ?_⟩
  · conv => lhs; rw [h]
    rw [show (nmP (nmP s ++ nmQ s)).length = (nmP s).length by rw [← h], List.drop_left]
  · conv => lhs; rw [h]
    rw [show (nmP (nmP s ++ nmQ s)).length = (nmP s).length by rw [← h], List.take_left]
set_option maxRecDepth 100000 in
theorem rname_walk (b : Nat) (r : Option (List UInt8)) (hs : Rl 140737488351232 r) (w : World) (h : RO w b r) :
    Calls Tryd.prog 68 #[.pointer (some ⟨b, 0, none⟩)] w fun e w' => e = .returned (.string (bs (nmP (rst r)))) ∧ Kp [b] w w' ∧ RO w' b (r.map nmQ) := by
  have HO := Lib.hid (show ∀ w', RQ w' b (nmQ (rst r)) r.isNone → RO w' b (r.map nmQ) from fun w' h => by
    cases r with
    | none => exact h
    | some s => exact h)
  unfold RO at h
  obtain ⟨c0, c1, f0, f1⟩ := h.cells
  unfold Rl at hs
  generalize r.isNone = g at *
  generalize rst r = s at *
  have HN := Lib.hid (fun w1 => namelong_walk s (by omega) w1)
  have hle : (nmP s).length ≤ s.length := by have := congrArg List.length (nmP_split s); rw [List.length_append] at this; omega
  have hc := rcut_walk b s g (nmP s).length hle hs w h
  rw [(nmQ_drop s).1, (nmQ_drop s).2] at hc
  have HC := Lib.hid hc
  clear hc hle h f0 f1 c1
  generalize (nmP s).length = n at *
  go_enter Tryd.func68, Tryd.ntmps68
  go_wp2_with fail
  refine (HN.out _).mono ?_
  rintro e w1 ⟨rfl, rfl⟩
  go_wp2_with fail
  refine HC.out.mono ?_
  rintro e w1 ⟨rfl, k1, h1⟩
  go_wp2
  go_ret
  exact ⟨rfl, k1, HO.out _ h1⟩
end Go.Proofs.YtonippapkmmkeaaDoor
/- strings.Builder's WriteString, walked at this translation. -/
namespace Go.Proofs.YtonippapkmmkeaaDoor
open Go.ChangeShapes Go.WideShapes Go.ChangeAt Go.RowKit K
set_option linter.unusedVariables false

/-- A builder in block b, that has these bytes, with all that is its own behind B. -/
def Bld (B b : Nat) (l : List UInt8) (w : World) : Prop := Lib.IsBuilder 108 5 B b (Lib.byteCells l) w
theorem bytes_cells (l : List UInt8) : Lib.strCells (bs l) = Lib.byteCells l := by
  unfold Lib.strCells Lib.byteCells
  rw [bs_toList]
theorem cells_app (a b : List UInt8) : Lib.byteCells (a ++ b) = Lib.byteCells a ++ Lib.byteCells b := by
  unfold Lib.byteCells; rw [List.map_append]
theorem cells_len (a : List UInt8) : (Lib.byteCells a).length = a.length := by
  unfold Lib.byteCells; rw [List.length_map]

theorem info_b : (Tryd.prog.info? 108).map (·.size) = some 2 := by kernel_rfl
theorem info_u : (Tryd.prog.info? 5).map (fun i => (i.zero, i.size, i.bytes)) = some (some (.int .u8 0), 1, 1) := by kernel_rfl
set_option maxHeartbeats 1000000 in
set_option maxRecDepth 100000 in
theorem check_used (b : Nat) (w : World) (h0 : w.cell? ⟨b, 0, none⟩ = some (.pointer (some ⟨b, 0, none⟩))) :
    Calls Tryd.prog 93 #[.pointer (some ⟨b, 0, none⟩)] w fun e w' => e = .returned (.tuple #[]) ∧ w' = w := by
  obtain ⟨j, hj, _⟩ := Option.map_eq_some_iff.1 info_b
  go_enter Tryd.func93, Tryd.ntmps93
  go_wp2
  rw [Lib.run_neq_ptr_same w _ Tryd.underlying105 hj]
  go_wp2
  go_end0
  exact ⟨rfl, rfl⟩
set_option maxHeartbeats 1000000 in
set_option maxRecDepth 100000 in
theorem check_fresh (b : Nat) (w : World) (h0 : w.cell? ⟨b, 0, none⟩ = some (.pointer none)) (hsh : w.shape? b = some (108, 2)) (hfz : w.frozen? ⟨b, 0, none⟩ = false) :
    Calls Tryd.prog 93 #[.pointer (some ⟨b, 0, none⟩)] w fun e w' => e = .returned (.tuple #[]) ∧ w' = w.setCell ⟨b, 0, none⟩ (.pointer (some ⟨b, 0, none⟩)) := by
  obtain ⟨j, hj, hjs⟩ := Option.map_eq_some_iff.1 info_b
  go_enter Tryd.func93, Tryd.ntmps93
  go_wp2
  rw [Lib.run_to_unsafe w ⟨b, 0, none⟩ Tryd.underlying105 Tryd.underlying117 hj (by rw [hjs]; decide) hsh (Nat.zero_lt_succ 1)]
  simp only [Result.andThen]
  rw [Oper.upon_value]
  go_wp2
  rw [run_callFunc_extern Tryd.func94 (by kernel_rfl) (by kernel_rfl) (by kernel_rfl) (e := Extern.AbiNoEscape.same) (by kernel_rfl)]
  rw [Lib.run_noEscape]
  simp only [Result.andThen]
  rw [Oper.upon_value]
  go_wp2
  rw [Lib.run_from_unsafe w ⟨b, 0, none⟩ Tryd.underlying117 Tryd.underlying105 hj hsh (by kernel_rfl)]
  simp only [Result.andThen]
  rw [Oper.upon_value]
  go_wp2
  go_end0
  exact ⟨rfl, rfl⟩
/-- Blocks of another type than a builder's bytes, but for block b, are as they were. -/
def Oth (b : Nat) (w w' : World) : Prop := ∀ (k : Nat) (cs : Array Value) (T : TypeId) (fr : Nat × Nat), w.heap[k]? = some (.cells cs T fr) → T ≠ 5 → k ≠ b → w'.heap[k]? = w.heap[k]?
theorem check_any (B b : Nat) (cs : List Value) (w : World) (h : Lib.IsBuilder 108 5 B b cs w) :
    Calls Tryd.prog 93 #[.pointer (some ⟨b, 0, none⟩)] w fun e w' => e = .returned (.tuple #[]) ∧ (Lib.BuilderAt 108 5 B b (.pointer (some ⟨b, 0, none⟩)) cs w' ∧ Below B w w' ∧ Oth b w w') := by
  rcases h with h | h
  · refine (check_fresh b w h.cell0 h.shape h.frozen0).mono ?_
    rintro e w' ⟨rfl, rfl⟩
    exact ⟨rfl, h.used _, (Below.refl B w).setCell (p := ⟨b, 0, none⟩) h.1 _, fun k _ _ _ _ _ hk => Below.heap_setCell _ _ _ _ hk⟩
  · refine (check_used b w h.cell0).mono ?_
    rintro e w' ⟨rfl, rfl⟩
    exact ⟨rfl, h, Below.refl B _, fun _ _ _ _ _ _ _ => rfl⟩
set_option maxHeartbeats 2000000 in
set_option maxRecDepth 100000 in
theorem wstr (B b : Nat) (l s : List UInt8) (w : World) (h : Bld B b l w) (hlen : l.length + s.length ≤ 140737488355328) (hBw : B ≤ w.heap.size) :
    Calls Tryd.prog 89 #[.pointer (some ⟨b, 0, none⟩), .string (bs s)] w fun e w' => e = .returned (.tuple #[.int .i64 (s.length : Nat), .nilIface]) ∧ (Bld B b (l ++ s) w' ∧ Below B w w' ∧ Oth b w w') := by
  unfold Bld at h
  have hlc := cells_len l
  obtain ⟨i0, hi, hz0, hz1, hz2⟩ := info_parts info_u
  have hcells : Lib.byteCells (l ++ s) = Lib.byteCells l ++ Lib.strCells (bs s) := by rw [cells_app, bytes_cells]
  have HCL := Lib.hid hcells
  have HB := Lib.hid (show ∀ w', Bld B b (l ++ s) w' = Lib.IsBuilder 108 5 B b (Lib.byteCells (l ++ s)) w' from fun _ => rfl)
  have hsz : (bs s).size = s.length := bs_size s
  generalize Lib.byteCells l = cs at *
  have hl2 : cs.length + (bs s).size ≤ 140737488355328 := by omega
  clear hcells hlc
  generalize Lib.byteCells (l ++ s) = ds at *
  have hs2 : s.length ≤ 140737488355328 := by omega
  have HSZ := Lib.hid hsz
  clear hsz
  go_enter Tryd.func89, Tryd.ntmps89
  go_wp2_with (go_at_call 93; refine (check_any B b cs _ h).mono ?_)
  rintro e w1 ⟨rfl, h1, hb1, ho1⟩
  obtain ⟨hB, v, hbk, hown, hne⟩ := h1
  have c0 : w1.cell? ⟨b, 0, none⟩ = some (.pointer (some ⟨b, 0, none⟩)) := by rw [Lib.cell_of_heap hbk]; rfl
  have c1 : w1.cell? ⟨b, 1, none⟩ = some v := by rw [Lib.cell_of_heap hbk]; rfl
  go_wp2_with (at_builtin; refine Lib.wpList_append_own_string _ rfl _ _ 106 9 rfl B 5 i0 Tryd.underlying106 Tryd.underlying9 hi hz0 hz1 hz2 _ _ _ rfl hown (bs s) rfl ?c3 ?c4 ?c5 ?_)
  case c3 => unfold maxLen; omega
  case c4 => omega
  case c5 => have := hb1.size; omega
  intro v' w2 hown' hgrow _
  have hlt : b < w1.heap.size := lt_of_block hbk
  have hb2 : w2.heap[b]? = some (.cells #[.pointer (some ⟨b, 0, none⟩), v] 108 (0, 0)) := by
    rw [hgrow.block b hlt (fun e => hne e.symm)]
    exact hbk
  have d0 : w2.cell? ⟨b, 0, none⟩ = some (.pointer (some ⟨b, 0, none⟩)) := by rw [Lib.cell_of_heap hb2]; rfl
  have d1 : w2.cell? ⟨b, 1, none⟩ = some v := by rw [Lib.cell_of_heap hb2]; rfl
  have f1 : w2.frozen? ⟨b, 1, none⟩ = false := Lib.frozen_of_heap hb2 1
  obtain ⟨ao, n', cap, rfl⟩ : ∃ ao n' cap, v' = .slice ao n' cap := by
    rcases hown'.2 with ⟨hv, _⟩ | ⟨g, cap, cur, hv, _⟩
    · exact ⟨_, _, _, hv⟩
    · exact ⟨_, _, _, hv⟩
  go_wp2
  go_ret2
  refine ⟨rfl, ?_, ?_, ?_⟩
  · rw [HB.out, HCL.out]
    exact .inr (Lib.BuilderAt.put (T := 108) (e := 5) hB hb2 (bs' := cs ++ Lib.strCells (bs s)) (by have hq := hown'; rw [← HSZ.out] at hq; simpa [Lib.strCells_length] using hq) (by decide))
  · exact (hb1.grown hgrow (by have := hb1.size; omega) (fun k hk => (hown.lt k hk).1)).setCell (p := ⟨b, 1, none⟩) hB _
  · intro k cs T fr hk hT hkb
    have h1 := ho1 k cs T fr hk hT hkb
    rw [Below.heap_setCell _ _ _ _ hkb, hgrow.block k (lt_of_block (h1.trans hk)) (fun e => Lib.ownBlock_ne hown (h1.trans hk) hT e.symm)]
    exact h1
/-- What a builder is, stays, whatever is made behind. -/
theorem own_below {w w' : World} {B : Nat} {T : TypeId} {n : Nat} {v : Value} {m : Nat} {xs : List Value} (h : w.ownsRow B T n v m xs) (k : Below w.heap.size w w') : w'.ownsRow B T n v m xs := by
  refine ⟨h.1, ?_⟩
  rcases h.2 with hn | ⟨g, cap, cur, h1, h2, h3, h4⟩
  · exact .inl hn
  · exact .inr ⟨g, cap, cur, h1, h2, (k.block g (lt_of_block h3)).trans h3, h4⟩
theorem bld_below {w w' : World} {B b : Nat} {l : List UInt8} (h : Bld B b l w) (k : Below w.heap.size w w') : Bld B b l w' := by
  unfold Bld at *
  rcases h with ⟨hB, v, hbk, hown, hne⟩ | ⟨hB, v, hbk, hown, hne⟩
  · exact .inl ⟨hB, v, (k.block b (lt_of_block hbk)).trans hbk, own_below hown k, hne⟩
  · exact .inr ⟨hB, v, (k.block b (lt_of_block hbk)).trans hbk, own_below hown k, hne⟩
theorem own_set {w : World} {B : Nat} {e : TypeId} {n : Nat} {v : Value} {m : Nat} {xs : List Value} (h : w.ownsRow B e n v m xs) {k : Nat} {cs : Array Value} {T : TypeId} {fr : Nat × Nat} (hk : w.heap[k]? = some (.cells cs T fr)) (hT : T ≠ e) (i : Nat) (u : Value) : (w.setCell ⟨k, i, none⟩ u).ownsRow B e n v m xs := by
  refine ⟨h.1, ?_⟩
  rcases h.2 with hn | ⟨g, cap, cur, h1, h2, h3, h4⟩
  · exact .inl hn
  · refine .inr ⟨g, cap, cur, h1, h2, (Below.heap_setCell _ _ _ _ ?_).trans h3, h4⟩
    intro hgk
    have hgk' : g = k := hgk
    rw [hgk', hk] at h3
    injection h3 with h3
    injection h3 with _ h3
    exact hT h3
theorem bld_set {w : World} {B b : Nat} {l : List UInt8} (h : Bld B b l w) {k : Nat} {cs : Array Value} {T : TypeId} {fr : Nat × Nat} (hk : w.heap[k]? = some (.cells cs T fr)) (hT : T ≠ 5) (hb : b ≠ k) (i : Nat) (u : Value) : Bld B b l (w.setCell ⟨k, i, none⟩ u) := by
  unfold Bld at *
  rcases h with ⟨hB, v, hbk, hown, hne⟩ | ⟨hB, v, hbk, hown, hne⟩
  · exact .inl ⟨hB, v, (Below.heap_setCell _ _ _ _ hb).trans hbk, own_set hown hk hT i u, hne⟩
  · exact .inr ⟨hB, v, (Below.heap_setCell _ _ _ _ hb).trans hbk, own_set hown hk hT i u, hne⟩
theorem bstr (B b : Nat) (l : List UInt8) (w : World) (h : Bld B b l w) (hBw : B ≤ w.heap.size) :
    Calls Tryd.prog 90 #[.pointer (some ⟨b, 0, none⟩)] w fun e w' => e = .returned (.string (bs l)) ∧ Below B w w' :=
  Tryd.Builder_String_any B b l w h hBw
end Go.Proofs.YtonippapkmmkeaaDoor
/- strings.Builder's WriteByte, walked at this translation. -/
namespace Go.Proofs.YtonippapkmmkeaaDoor
open Go.ChangeShapes Go.WideShapes Go.ChangeAt Go.RowKit K
set_option linter.unusedVariables false

theorem wstrB (B b : Nat) (l s : List UInt8) (w : World) (h : Bld B b l w) (hlen : l.length + s.length ≤ 140737488355328) (hBw : B ≤ w.heap.size) :
    Calls Tryd.prog 89 #[.pointer (some ⟨b, 0, none⟩), .string (bs s)] w fun e w' => e = .returned (.tuple #[.int .i64 (s.length : Nat), .nilIface]) ∧ (Bld B b (l ++ s) w' ∧ Below B w w') :=
  (wstr B b l s w h hlen hBw).mono fun e w' h => ⟨h.1, h.2.1, h.2.2.1⟩
end Go.Proofs.YtonippapkmmkeaaDoor
