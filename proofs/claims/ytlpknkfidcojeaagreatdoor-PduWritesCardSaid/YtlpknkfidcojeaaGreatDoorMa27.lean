/- Texts on the program and on the document, joined: OidF, OidN, PduR. -/
import Derived.Test.YtlpknkfidcojeaaGreatDoorMa24
import Derived.Test.YtlpknkfidcojeaaGreatDoorMa26
/- The document's own Rest, walked. -/
namespace Go.Proofs.YtlpknkfidcojeaaGreatDoor
open Go.ChangeShapes Go.WideShapes Go.ChangeAt Go.RowKit K O6
set_option linter.unusedVariables false

theorem OwnI.cap {w : World} {B : Nat} {T : TypeId} {ao : Option Addr} {n cap : Nat} {cs : List Nat} (h : OwnI w B T (.slice ao n cap) cs) : n ≤ cap := by
  rcases h.2 with ⟨hv, h0⟩ | ⟨g, cap', cur, hv, hB, hh, hle, hm, hs, ht⟩
  · cases hv; exact Nat.le_refl _
  · cases hv; omega
def rsS (r s : List UInt8) : List UInt8 := if wi r s then put ((arL s).drop (arL r).length) else []
def rsE (r s : List UInt8) : Nat := if wi r s then 0 else 60
end Go.Proofs.YtlpknkfidcojeaaGreatDoor
/- oid's both, cut, behind, Within, Rest, walked. -/
namespace Go.Proofs.YtlpknkfidcojeaaGreatDoor
open Go.ChangeShapes Go.WideShapes Go.ChangeAt Go.RowKit K O6
set_option linter.unusedVariables false

/-- What both tells. -/
def BoPost (a b : List UInt8) (w : World) (e : Ending) (w' : World) : Prop :=
  ∃ va vb, e = .returned (.tuple #[va, vb, .bool ((arcs a).isSome && (arcs b).isSome)]) ∧ Below w.heap.size w w' ∧ (∃ o n c, va = .slice o n c) ∧ (∃ o n c, vb = .slice o n c) ∧
    (((arcs a).isSome && (arcs b).isSome) = true → OwnI w' w.heap.size 3 va (arL a) ∧ OwnI w' w.heap.size 3 vb (arL b))
theorem own_shape {w : World} {B : Nat} {T : TypeId} {v : Value} {cs : List Nat} (h : OwnI w B T v cs) : ∃ o n c, v = .slice o n c := by
  obtain ⟨ao, cap, hv, _⟩ := h.form
  exact ⟨_, _, _, hv⟩
set_option maxRecDepth 100000 in
set_option maxHeartbeats 1000000 in
theorem both_walk (a b : List UInt8) (ha : a.length ≤ 1000000) (hb : b.length ≤ 1000000) (w : World) (T : Tabs w) :
    Calls Tryz.prog 97 #[.string (bs a), .string (bs b)] w (BoPost a b w) := by
  have HA := Lib.hid (arcs_walk a ha w T)
  have HB := Lib.hid (fun w1 (t : Tabs w1) => arcs_walk b hb w1 t)
  have HT := Lib.hid T
  unfold ArPost at HA HB
  unfold BoPost
  clear T
  cases hx : arcs a with
  | none =>
    have h1 := ar_none hx
    rw [h1.1, h1.2] at HA
    rw [show ((none : Option (List Nat)).isSome && (arcs b).isSome) = false from rfl]
    clear h1 hx
    go_enter Tryz.func97, Tryz.ntmps97
    go_wp2_with fail
    refine HA.out.mono ?_
    rintro e w1 ⟨va, rfl, hoa, hb1⟩
    obtain ⟨o, n, c, rfl⟩ := own_shape hoa
    go_wp2
    go_ret3
    exact ⟨_, _, rfl, hb1, ⟨_, _, _, rfl⟩, ⟨_, _, _, rfl⟩, fun h => by cases h⟩
  | some l =>
    have h1 := ar_some hx
    rw [h1.1] at HA
    rw [show ((some l : Option (List Nat)).isSome && (arcs b).isSome) = (arcs b).isSome from rfl]
    clear h1 hx
    cases hy : arcs b with
    | none =>
      have h2 := ar_none hy
      rw [h2.1] at HB
      rw [show (none : Option (List Nat)).isSome = false from rfl]
      clear h2 hy
      go_enter Tryz.func97, Tryz.ntmps97
      go_wp2_with fail
      refine HA.out.mono ?_
      rintro e w1 ⟨va, rfl, hoa, hb1⟩
      obtain ⟨o, n, c, rfl⟩ := own_shape hoa
      go_wp2_with fail
      refine (HB.out w1 (HT.out.below hb1)).mono ?_
      rintro e w2 ⟨vb, rfl, hob, hb2⟩
      obtain ⟨o2, n2, c2, rfl⟩ := own_shape hob
      have b2 := hb1.trans (hb2.mono hb1.size)
      clear hoa hob hb1 hb2
      go_wp2
      go_ret3
      exact ⟨_, _, rfl, b2, ⟨_, _, _, rfl⟩, ⟨_, _, _, rfl⟩, fun h => by cases h⟩
    | some m =>
      have h2 := ar_some hy
      rw [h2.1] at HB
      rw [show (some m : Option (List Nat)).isSome = true from rfl]
      clear h2 hy
      go_enter Tryz.func97, Tryz.ntmps97
      go_wp2_with fail
      refine HA.out.mono ?_
      rintro e w1 ⟨va, rfl, hoa, hb1⟩
      obtain ⟨o, n, c, rfl⟩ := own_shape hoa
      go_wp2_with fail
      refine (HB.out w1 (HT.out.below hb1)).mono ?_
      rintro e w2 ⟨vb, rfl, hob, hb2⟩
      obtain ⟨o2, n2, c2, rfl⟩ := own_shape hob
      have b2 := hb1.trans (hb2.mono hb1.size)
      have HOA := Lib.hid (hoa.below hb2)
      have HOB := Lib.hid (hob.mono hb1.size)
      clear hoa hob hb1 hb2
      go_wp2
      go_ret3
      exact ⟨_, _, rfl, b2, ⟨_, _, _, rfl⟩, ⟨_, _, _, rfl⟩, fun _ => ⟨HOA.out, HOB.out⟩⟩
set_option maxRecDepth 100000 in
theorem cut_walk (g off n cap k : Nat) (h1 : k ≤ n) (h2 : n ≤ cap) (h3 : cap ≤ 9223372036854775807) (w : World) :
    Calls Tryz.prog 98 #[.slice (some ⟨g, off, none⟩) n cap, .int .i64 (k : Nat)] w fun e w' =>
      e = .returned (.tuple #[.slice (some ⟨g, off, none⟩) k k, .slice (if n = k then some ⟨g, off, none⟩ else some ⟨g, off + k, none⟩) (n - k) (n - k)]) ∧ ∃ q, w' = w.drewN q := by
  have c1 : ((k : Nat) : Int) ≤ (n : Nat) := by omega
  have c2 : ((n : Nat) : Int) ≤ (cap : Nat) := by omega
  have c3 : ((k : Nat) : Int) ≤ (cap : Nat) := by omega
  have c4 : (0 : Int) ≤ (k : Nat) := by omega
  have c5 : (0 : Int) ≤ (n : Nat) := by omega
  go_enter Tryz.func98, Tryz.ntmps98
  go_wp2_with fail
  go_quiet (fail)
  go_wp2
  all_goals
    go_ret2
    exact ⟨rfl, nq, rfl⟩
/-- What behind tells. -/
def BhPost (r s : List UInt8) (w : World) (e : Ending) (w' : World) : Prop :=
  ∃ o n c, e = .returned (.tuple #[.slice o n c, .bool (wi r s)]) ∧ Below w.heap.size w w' ∧ (wi r s = true → n = ((arL s).drop (arL r).length).length ∧ RdZ w' o n (fz ((arL s).drop (arL r).length)))
theorem ints_take (a b : List Nat) (h : a.length ≤ b.length) : ((b.map (fun x : Nat => (x : Int))).take a.length == (a.map (fun x : Nat => (x : Int))).take a.length) = O6.within a b := by
  rw [List.take_of_length_le (l := a.map (fun x : Nat => (x : Int))) (by simp)]
  rw [Bool.eq_iff_iff, beq_iff_eq, O6.within_iff]
  constructor
  · intro e
    rw [← List.map_take] at e
    have h2 : b.take a.length = a := by
      have h3 := congrArg (List.map Int.toNat) e
      rw [List.map_map, List.map_map] at h3
      have h4 : (Int.toNat ∘ fun x : Nat => (x : Int)) = id := by funext x; simp
      rw [h4, List.map_id, List.map_id] at h3
      exact h3
    refine ⟨b.drop a.length, ?_⟩
    have h5 := List.take_append_drop a.length b
    rw [h2] at h5
    exact h5.symm
  · rintro ⟨t, rfl⟩
    rw [List.map_append, List.take_left' (by simp)]
set_option maxRecDepth 100000 in
set_option maxHeartbeats 2000000 in
theorem behind_walk (r s : List UInt8) (hr : r.length ≤ 1000000) (hs : s.length ≤ 1000000) (w : World) (T : Tabs w) :
    Calls Tryz.prog 68 #[.string (bs r), .string (bs s)] w (BhPost r s w) := by
  have HB := Lib.hid (both_walk r s hr hs w T)
  have hlr := arL_len r
  have hls := arL_len s
  unfold BoPost at HB
  unfold BhPost
  cases hok : ((arcs r).isSome && (arcs s).isSome)
  · rw [hok] at HB
    have hw : wi r s = false := by
      unfold wi
      rw [← Bool.and_assoc, hok]; rfl
    rw [hw]
    clear hok hw
    go_enter Tryz.func68, Tryz.ntmps68
    go_wp2_with fail
    refine HB.out.mono ?_
    rintro e w1 ⟨va, vb, rfl, b1, ⟨o1, n1, d1, rfl⟩, ⟨o2, n2, d2, rfl⟩, -⟩
    go_wp2
    go_ret2
    exact ⟨_, _, _, rfl, b1, fun h => by cases h⟩
  · rw [hok] at HB
    have hw : wi r s = O6.within (arL r) (arL s) := by
      unfold wi
      rw [← Bool.and_assoc, hok]; rfl
    rw [hw]
    have h2r : 2 ≤ (arL r).length := by
      rw [Bool.and_eq_true] at hok
      obtain ⟨l, hl⟩ := Option.isSome_iff_exists.1 hok.1
      rw [(ar_some hl).2]
      exact (isArcs_len ((arcs_iff r l).1 hl).1).1
    have h2s : 2 ≤ (arL s).length := by
      rw [Bool.and_eq_true] at hok
      obtain ⟨l, hl⟩ := Option.isSome_iff_exists.1 hok.2
      rw [(ar_some hl).2]
      exact (isArcs_len ((arcs_iff s l).1 hl).1).1
    clear hok hw
    generalize arL r = A at *
    generalize arL s = B at *
    by_cases hlong : B.length < A.length
    · have hlong' : ((B.length : Nat) : Int) < (A.length : Nat) := by omega
      have hwn : O6.within A B = false := within_long hlong
      rw [hwn]
      clear hwn
      go_enter Tryz.func68, Tryz.ntmps68
      go_wp2_with fail
      refine HB.out.mono ?_
      rintro e w1 ⟨va, vb, rfl, b1, -, -, ho⟩
      obtain ⟨hoa, hob⟩ := ho trivial
      obtain ⟨ga, ca, cura, rfl, -, -, -, -⟩ := own_block hoa (by omega)
      obtain ⟨gb, cb, curb, rfl, -, -, -, -⟩ := own_block hob (by omega)
      clear hoa hob ho
      go_wp2
      go_ret2
      exact ⟨_, _, _, rfl, b1, fun h => by cases h⟩
    · have hle : A.length ≤ B.length := by omega
      have hle' : ((A.length : Nat) : Int) ≤ (B.length : Nat) := by omega
      have HEQ := Lib.hid (ints_take A B hle)
      go_enter Tryz.func68, Tryz.ntmps68
      go_wp2_with fail
      refine HB.out.mono ?_
      rintro e w1 ⟨va, vb, rfl, b1, -, -, ho⟩
      obtain ⟨hoa, hob⟩ := ho trivial
      obtain ⟨ga, ca, cura, rfl, -, hha, -, hca⟩ := own_block hoa (by omega)
      obtain ⟨gb, cb, curb, rfl, -, hhb, hcb1, hcb⟩ := own_block hob (by omega)
      have hcbm : cb ≤ 9223372036854775807 := by
        rcases hob.2 with ⟨hv, h1⟩ | ⟨g, cap, cur, hv, _, _, _, hm, _, _⟩
        · omega
        · injection hv with e1 e2 e3
          unfold maxLen at hm; omega
      have HCA := Lib.hid hca
      have HCB := Lib.hid hcb
      have hlt := lt_of_block hhb
      clear hoa hob ho hca hcb
      go_wp2_with fail
      refine (cut_walk gb 0 B.length cb A.length hle hcb1 hcbm w1).mono ?_
      rintro e w2 ⟨rfl, q, rfl⟩
      have b2 := Below_drewNg b1 q
      have HE := Lib.hid (Tryz.slices_Equal_int gb 0 A.length A.length ga 0 A.length ca (B.map fun x : Nat => (x : Int)) (A.map fun x : Nat => (x : Int)) (w1.drewN q) (by rw [List.length_map]; exact hle) (by rw [List.length_map]; exact Nat.le_refl _) (by omega) (by omega)
        (fun j hj => by
          rw [List.length_map] at hj
          rw [Nat.zero_add]
          refine (HCB.out j hj).trans ?_
          simp [List.getD, List.getElem?_eq_getElem hj])
        (fun j hj => by
          rw [List.length_map] at hj
          rw [Nat.zero_add]
          refine (HCA.out j hj).trans ?_
          simp [List.getD, List.getElem?_eq_getElem hj]))
      rw [HEQ.out] at HE
      go_wp2_with fail
      all_goals
        refine HE.out.mono ?_
        rintro e w3 ⟨rfl, q2, rfl⟩
        have b3 := Below_drewNg b1 (q + q2)
        go_wp2
        go_ret2
        refine ⟨_, _, _, rfl, b3, fun _ => ⟨by have := List.length_drop (i := A.length) (l := B); omega, ?_⟩⟩
        first
        | (refine .inl ?_; omega)
        | (refine .inr ⟨gb, A.length, by simp, hlt, fun i hi => ?_⟩
           refine (HCB.out (A.length + i) (by omega)).trans ?_
           unfold fz
           simp [List.getD, List.getElem?_drop])
theorem within_walk (r s : List UInt8) (hr : r.length ≤ 1000000) (hs : s.length ≤ 1000000) (w : World) (T : Tabs w) :
    Calls Tryz.prog 38 #[.string (bs r), .string (bs s)] w fun e w' => e = .returned (.bool (wi r s)) ∧ Below w.heap.size w w' := by
  have HB := Lib.hid (behind_walk r s hr hs w T)
  unfold BhPost at HB
  generalize wi r s = X at *
  go_enter Tryz.func38, Tryz.ntmps38
  go_wp2_with fail
  refine HB.out.mono ?_
  rintro e w1 ⟨o, n, c, rfl, b1, -⟩
  go_wp2
  go_ret
  exact ⟨rfl, b1⟩
end Go.Proofs.YtlpknkfidcojeaaGreatDoor
/- Find, the document's and the program's, walked. -/
namespace Go.Proofs.YtlpknkfidcojeaaGreatDoor
open Go.ChangeShapes Go.WideShapes Go.ChangeAt Go.RowKit K P1 B5
open D8 (Bd Un lst)
set_option linter.unusedVariables false

def fnd (r : List UInt8) (xs : List Bd) : List Bd := xs.filter fun x => wi r x.o
theorem fnd_take {r : List UInt8} {xs : List Bd} {i : Nat} (hi : i < xs.length) : fnd r (xs.take (i + 1)) = if wi r (xs.getD i nob).o = true then fnd r (xs.take i) ++ [xs.getD i nob] else fnd r (xs.take i) := by
  unfold fnd
  rw [List.take_succ_eq_append_getElem hi, List.filter_append, List.getD_eq_getElem?_getD, List.getElem?_eq_getElem hi]
  show _ ++ List.filter _ [xs[i]] = if wi r (xs[i]).o = true then _ ++ [xs[i]] else _
  cases h : wi r (xs[i]).o
  · rw [if_neg (by simp)]
    show _ ++ (match wi r (xs[i]).o with | true => [xs[i]] | false => []) = _
    rw [h, List.append_nil]
  · rw [if_pos rfl]
    show _ ++ (match wi r (xs[i]).o with | true => [xs[i]] | false => []) = _
    rw [h]
theorem fnd_len (r : List UInt8) (xs : List Bd) : (fnd r xs).length ≤ xs.length := List.length_filter_le _ _
theorem bind_info : (Tryz.prog.info? 42).map (fun i => (i.zero, i.size, i.bytes)) = some (some (.agg #[.string .empty, .int .i64 0, .int .i64 0, .string .empty]), 4, 48) := by kernel_rfl
theorem bind_parts : ∃ i, Tryz.prog.info? 42 = some i ∧ i.zero = some (.agg #[.string .empty, .int .i64 0, .int .i64 0, .string .empty]) ∧ i.size = 4 ∧ i.bytes = 48 := by
  obtain ⟨i, h1, h2⟩ := Option.map_eq_some_iff.1 bind_info
  simp only [Prod.mk.injEq] at h2
  exact ⟨i, h1, h2.1, h2.2.1, h2.2.2⟩
theorem one_cell (x : Bd) : ∀ u ∈ cellsB x, u.oneCell' = true := by
  intro u hu
  simp [cellsB] at hu
  rcases hu with rfl | rfl | rfl | rfl <;> rfl
theorem Bq.each {w : World} {b : Nat} {x : Bd} (h : Bq w b x) : ∀ j u, (cellsB x)[j]? = some u → w.cell? ((⟨b, 0, none⟩ : Addr).add j) = some u := by
  obtain ⟨c0, c1, c2, c3⟩ := h.cells
  intro j u hj
  match j, hj with
  | 0, hj => simp [cellsB] at hj; subst hj; exact c0
  | 1, hj => simp [cellsB] at hj; subst hj; exact c1
  | 2, hj => simp [cellsB] at hj; subst hj; exact c2
  | 3, hj => simp [cellsB] at hj; subst hj; exact c3
  | j + 4, hj => simp [cellsB] at hj
def FdRel (r : List UInt8) (xs : List Bd) (w : World) (g : Nat) (vo vi : Value) (wr : World) : Prop :=
  ∃ i : Nat, i + g = xs.length ∧ vi = .int .i64 (i : Nat) ∧ OwnB wr w.heap.size 42 vo (fnd r (xs.take i)) ∧ Below w.heap.size w wr
set_option maxRecDepth 100000 in
set_option maxHeartbeats 2000000 in
theorem qfind_walk (r : List UInt8) (xs : List Bd) (ao : Option Addr) (cap : Nat) (hr : r.length ≤ 140737488351232) (hl : xs.length ≤ 1000000) (hx : Lim xs) (w : World) (hrd : RdB w ao xs) :
    Calls Tryz.prog 15 #[.slice ao xs.length cap, .string (bs r)] w fun e w' => ∃ v, e = .returned v ∧ OwnB w' w.heap.size 42 v (fnd r xs) ∧ Below w.heap.size w w' := by
  obtain ⟨i0, hi, hz0, hz1, hz2⟩ := bind_parts
  go_enter Tryz.func15, Tryz.ntmps15
  go_wp2_with fail
  go_loopg [5, 6] xs.length (fun g vo vi wr => FdRel r xs w g vo vi wr)
  case atStart => exact ⟨0, by omega, rfl, OwnB.nil _ _ _, Below.refl _ _⟩
  case round =>
    obtain ⟨i, hig, rfl, ho, hb⟩ := hrel
    cases gk with
    | zero =>
      obtain rfl : i = xs.length := by omega
      rw [List.take_length] at ho
      have HO := Lib.hid ho
      clear ho
      go_wp2
      go_ret
      exact ⟨_, rfl, HO.out, hb⟩
    | succ g =>
      have hlt : i < xs.length := by omega
      have HF := Lib.hid (fnd_take (r := r) hlt)
      have hfl : (fnd r (xs.take i)).length ≤ 1000000 := by have h1 := fnd_len r (xs.take i); rw [List.length_take] at h1; omega
      obtain ⟨l1, l2, _⟩ := hx.at hlt
      obtain ⟨x, hxe⟩ : ∃ x, xs.getD i nob = x := ⟨_, rfl⟩
      obtain ⟨b, off, rfl, hbl, c0, c1, c2, c3⟩ := (hrd.below hb).at hlt hxe
      rw [hxe] at HF l1
      have hW := fun w1 => qwithin_walk r x.o hr l1 w1
      cases hwi : wi r x.o
      · rw [hwi] at hW HF
        have HW := Lib.hid hW
        have HO := Lib.hid ho
        clear hW hwi hxe ho
        go_wp2_with fail
        refine (HW.out _).mono ?_
        rintro e w1 ⟨rfl, d1⟩
        go_wp2
        go_roundg g
        case measure => omega
        case rel => exact ⟨i + 1, by omega, by simp, by rw [HF.out, if_neg (by simp)]; exact HO.out.below d1, hb.trans (d1.mono hb.size)⟩
      · rw [hwi] at hW HF
        have HW := Lib.hid hW
        clear hW hwi hxe
        go_wp2_with fail
        refine (HW.out _).mono ?_
        rintro e w1 ⟨rfl, d1⟩
        have ho1 := ho.below d1
        have hb1 := hb.trans (d1.mono hb.size)
        have e0 := d1.cell (p := ⟨b, off + i * 4, none⟩) hbl |>.trans c0
        have e1 := d1.cell (p := ⟨b, off + i * 4 + 1, none⟩) hbl |>.trans c1
        have e2 := d1.cell (p := ⟨b, off + i * 4 + 2, none⟩) hbl |>.trans c2
        have e3 := d1.cell (p := ⟨b, off + i * 4 + 3, none⟩) hbl |>.trans c3
        clear d1 ho c0 c1 c2 c3 hb
        go_wp2_with (at_builtin; refine wpList_append_own _ rfl _ _ 23 rfl w.heap.size 42 i0 (.agg #[.string .empty, .int .i64 0, .int .i64 0, .string .empty]) 4 48 Tryz.underlying23 hi hz0 hz1 hz2 rfl (by decide) _ _ _ rfl (World.ownsRow.alloc ho1 _) _ 1 1 (cellsB x) rfl rfl ?c1 ?c2 ?c3 ?c4 ?c5 ?_)
        case c1 => exact (Bq.new w1 x).each
        case c2 => exact one_cell x
        case c3 => unfold maxLen; omega
        case c4 => omega
        case c5 => have := hb1.size; simp; omega
        intro v3 w3 hown hgrow _
        have hb3 := (hb1.alloc hb1.size (.cells #[.string (bs x.o), .int .i64 x.k, .int .i64 x.n, .string (bs x.s)] 42)).grown hgrow (by have := hb1.size; simp; omega) (fun k hk => (World.ownsRow.lt ho1 k hk).1)
        have HO := Lib.hid (OwnB.put hown)
        clear hown hgrow ho1 hb1 e0 e1 e2 e3
        go_wp2
        go_roundg g
        case measure => omega
        case rel => exact ⟨i + 1, by omega, by simp, by rw [HF.out, if_pos trivial]; exact HO.out, hb3⟩
set_option maxRecDepth 100000 in
set_option maxHeartbeats 2000000 in
theorem find_walk (r : List UInt8) (xs : List Bd) (ao : Option Addr) (cap : Nat) (hr : r.length ≤ 1000000) (hl : xs.length ≤ 1000000) (hx : LimP xs) (w : World) (T : Tabs w) (hrd : RdB w ao xs) :
    Calls Tryz.prog 14 #[.slice ao xs.length cap, .string (bs r)] w fun e w' => ∃ v, e = .returned v ∧ OwnB w' w.heap.size 42 v (fnd r xs) ∧ Below w.heap.size w w' := by
  obtain ⟨i0, hi, hz0, hz1, hz2⟩ := bind_parts
  have HT := Lib.hid T
  clear T
  go_enter Tryz.func14, Tryz.ntmps14
  go_wp2_with fail
  go_loopg [5, 10] xs.length (fun g vo vi wr => FdRel r xs w g vo vi wr)
  case atStart => exact ⟨0, by omega, rfl, OwnB.nil _ _ _, Below.refl _ _⟩
  case round =>
    obtain ⟨i, hig, rfl, ho, hb⟩ := hrel
    cases gk with
    | zero =>
      obtain rfl : i = xs.length := by omega
      rw [List.take_length] at ho
      have HO := Lib.hid ho
      clear ho
      go_wp2
      go_ret
      exact ⟨_, rfl, HO.out, hb⟩
    | succ g =>
      have hlt : i < xs.length := by omega
      have HF := Lib.hid (fnd_take (r := r) hlt)
      have hfl : (fnd r (xs.take i)).length ≤ 1000000 := by have h1 := fnd_len r (xs.take i); rw [List.length_take] at h1; omega
      obtain ⟨l1, l2, _⟩ := hx.at hlt
      obtain ⟨x, hxe⟩ : ∃ x, xs.getD i nob = x := ⟨_, rfl⟩
      obtain ⟨b, off, rfl, hbl, c0, c1, c2, c3⟩ := (hrd.below hb).at hlt hxe
      rw [hxe] at HF l1
      have hW := fun w1 (h : Tabs w1) => within_walk r x.o hr l1 w1 h
      have hq := Bq.new wr x
      have ba := alloc_in wr (.cells #[.string (bs x.o), .int .i64 x.k, .int .i64 x.n, .string (bs x.s)] 42)
      have HTr := Lib.hid (HT.out.below (hb.trans (ba.mono hb.size)))
      have ho0 := ho.below ba
      have hb0 := hb.trans (ba.mono hb.size)
      clear ho
      cases hwi : wi r x.o
      · rw [hwi] at hW HF
        have HW := Lib.hid hW
        have HO := Lib.hid ho0
        clear hW hwi hxe ho0
        go_wp2_with fail
        refine (HW.out _ HTr.out).mono ?_
        rintro e w1 ⟨rfl, d1⟩
        go_wp2
        go_roundg g
        case measure => omega
        case rel => exact ⟨i + 1, by omega, by simp, by rw [HF.out, if_neg (by simp)]; exact HO.out.below d1, hb0.trans (d1.mono hb0.size)⟩
      · rw [hwi] at hW HF
        have HW := Lib.hid hW
        clear hW hwi hxe
        go_wp2_with fail
        refine (HW.out _ HTr.out).mono ?_
        rintro e w1 ⟨rfl, d1⟩
        have ho1 := ho0.below d1
        have hb1 := hb0.trans (d1.mono hb0.size)
        obtain ⟨e0, e1, e2, e3⟩ := (hq.below d1).cells
        clear d1 ho0 hb0 c0 c1 c2 c3 hb hq ba
        go_wp2_with (at_builtin; refine wpList_append_own _ rfl _ _ 23 rfl w.heap.size 42 i0 (.agg #[.string .empty, .int .i64 0, .int .i64 0, .string .empty]) 4 48 Tryz.underlying23 hi hz0 hz1 hz2 rfl (by decide) _ _ _ rfl (World.ownsRow.alloc ho1 _) _ 1 1 (cellsB x) rfl rfl ?d1 ?d2 ?d3 ?d4 ?d5 ?_)
        case d1 => exact (Bq.new w1 x).each
        case d2 => exact one_cell x
        case d3 => unfold maxLen; omega
        case d4 => omega
        case d5 => have := hb1.size; simp; omega
        intro v3 w3 hown hgrow _
        have hb3 := (hb1.alloc hb1.size (.cells #[.string (bs x.o), .int .i64 x.k, .int .i64 x.n, .string (bs x.s)] 42)).grown hgrow (by have := hb1.size; simp; omega) (fun k hk => (World.ownsRow.lt ho1 k hk).1)
        have HO := Lib.hid (OwnB.put hown)
        clear hown hgrow ho1 hb1 e0 e1 e2 e3
        go_wp2
        go_roundg g
        case measure => omega
        case rel => exact ⟨i + 1, by omega, by simp, by rw [HF.out, if_pos trivial]; exact HO.out, hb3⟩
end Go.Proofs.YtlpknkfidcojeaaGreatDoor
