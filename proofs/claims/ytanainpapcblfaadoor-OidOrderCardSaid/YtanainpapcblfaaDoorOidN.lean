/- oid's both, cut, behind, Within, Rest, walked. -/
import Derived.Test.YtanainpapcblfaaDoorOidY
import Derived.Test.YtanainpapcblfaaDoorOidF
namespace Go.Proofs.YtanainpapcblfaaDoor
open Go.ChangeShapes Go.WideShapes Go.ChangeAt Go.RowKit K O6
set_option linter.unusedVariables false

/-- What both tells. -/
def BoPost (a b : List UInt8) (w : World) (e : Ending) (w' : World) : Prop :=
  ∃ va vb, e = .returned (.tuple #[va, vb, .bool ((arcs a).isSome && (arcs b).isSome)]) ∧ Below w.heap.size w w' ∧ (∃ o n c, va = .slice o n c) ∧ (∃ o n c, vb = .slice o n c) ∧
    (((arcs a).isSome && (arcs b).isSome) = true → OwnI w' w.heap.size 3 va (arL a) ∧ OwnI w' w.heap.size 3 vb (arL b))
theorem own_shape {w : World} {B : Nat} {T : TypeId} {v : Value} {cs : List Nat} (h : OwnI w B T v cs) : ∃ o n c, v = .slice o n c := by
  obtain ⟨ao, cap, hv, _⟩ := h.form
  exact ⟨_, _, _, hv⟩
set_option maxRecDepth 100000 in
set_option maxHeartbeats 1000000 in
theorem both_walk (a b : List UInt8) (ha : a.length ≤ 1000000) (hb : b.length ≤ 1000000) (w : World) (T : Tabs w) :
    Calls Tryd.prog 48 #[.string (bs a), .string (bs b)] w (BoPost a b w) := by
  have HA := Lib.hid (arcs_walk a ha w T)
  have HB := Lib.hid (fun w1 (t : Tabs w1) => arcs_walk b hb w1 t)
  have HT := Lib.hid T
  unfold ArPost at HA HB
  unfold BoPost
  clear T
  cases hx : arcs a with
  | none =>
    have h1 := ar_none hx
    rw [h1.1, h1.2] at HA
    rw [show ((none : Option (List Nat)).isSome && (arcs b).isSome) = false from rfl]
    clear h1 hx
    go_enter Tryd.func48, Tryd.ntmps48
    go_wp2_with fail
    refine HA.out.mono ?_
    rintro e w1 ⟨va, rfl, hoa, hb1⟩
    obtain ⟨o, n, c, rfl⟩ := own_shape hoa
    go_wp2
    go_ret3
    exact ⟨_, _, rfl, hb1, ⟨_, _, _, rfl⟩, ⟨_, _, _, rfl⟩, fun h => by cases h⟩
  | some l =>
    have h1 := ar_some hx
    rw [h1.1] at HA
    rw [show ((some l : Option (List Nat)).isSome && (arcs b).isSome) = (arcs b).isSome from rfl]
    clear h1 hx
    cases hy : arcs b with
    | none =>
      have h2 := ar_none hy
      rw [h2.1] at HB
      rw [show (none : Option (List Nat)).isSome = false from rfl]
      clear h2 hy
      go_enter Tryd.func48, Tryd.ntmps48
      go_wp2_with fail
      refine HA.out.mono ?_
      rintro e w1 ⟨va, rfl, hoa, hb1⟩
      obtain ⟨o, n, c, rfl⟩ := own_shape hoa
      go_wp2_with fail
      refine (HB.out w1 (HT.out.below hb1)).mono ?_
      rintro e w2 ⟨vb, rfl, hob, hb2⟩
      obtain ⟨o2, n2, c2, rfl⟩ := own_shape hob
      have b2 := hb1.trans (hb2.mono hb1.size)
      clear hoa hob hb1 hb2
      go_wp2
      go_ret3
      exact ⟨_, _, rfl, b2, ⟨_, _, _, rfl⟩, ⟨_, _, _, rfl⟩, fun h => by cases h⟩
    | some m =>
      have h2 := ar_some hy
      rw [h2.1] at HB
      rw [show (some m : Option (List Nat)).isSome = true from rfl]
      clear h2 hy
      go_enter Tryd.func48, Tryd.ntmps48
      go_wp2_with fail
      refine HA.out.mono ?_
      rintro e w1 ⟨va, rfl, hoa, hb1⟩
      obtain ⟨o, n, c, rfl⟩ := own_shape hoa
      go_wp2_with fail
      refine (HB.out w1 (HT.out.below hb1)).mono ?_
      rintro e w2 ⟨vb, rfl, hob, hb2⟩
      obtain ⟨o2, n2, c2, rfl⟩ := own_shape hob
      have b2 := hb1.trans (hb2.mono hb1.size)
      have HOA := Lib.hid (hoa.below hb2)
      have HOB := Lib.hid (hob.mono hb1.size)
      clear hoa hob hb1 hb2
      go_wp2
      go_ret3
      exact ⟨_, _, rfl, b2, ⟨_, _, _, rfl⟩, ⟨_, _, _, rfl⟩, fun _ => ⟨HOA.out, HOB.out⟩⟩
set_option maxRecDepth 100000 in
theorem cut_walk (g off n cap k : Nat) (h1 : k ≤ n) (h2 : n ≤ cap) (h3 : cap ≤ 9223372036854775807) (w : World) :
    Calls Tryd.prog 59 #[.slice (some ⟨g, off, none⟩) n cap, .int .i64 (k : Nat)] w fun e w' =>
      e = .returned (.tuple #[.slice (some ⟨g, off, none⟩) k k, .slice (if n = k then some ⟨g, off, none⟩ else some ⟨g, off + k, none⟩) (n - k) (n - k)]) ∧ ∃ q, w' = w.drewN q := by
  have c1 : ((k : Nat) : Int) ≤ (n : Nat) := by omega
  have c2 : ((n : Nat) : Int) ≤ (cap : Nat) := by omega
  have c3 : ((k : Nat) : Int) ≤ (cap : Nat) := by omega
  have c4 : (0 : Int) ≤ (k : Nat) := by omega
  have c5 : (0 : Int) ≤ (n : Nat) := by omega
  go_enter Tryd.func59, Tryd.ntmps59
  go_wp2_with fail
  go_quiet (fail)
  go_wp2
  all_goals
    go_ret2
    exact ⟨rfl, nq, rfl⟩
/-- What behind tells. -/
def BhPost (r s : List UInt8) (w : World) (e : Ending) (w' : World) : Prop :=
  ∃ o n c, e = .returned (.tuple #[.slice o n c, .bool (wi r s)]) ∧ Below w.heap.size w w' ∧ (wi r s = true → n = ((arL s).drop (arL r).length).length ∧ RdZ w' o n (fz ((arL s).drop (arL r).length)))
theorem ints_take (a b : List Nat) (h : a.length ≤ b.length) : ((b.map (fun x : Nat => (x : Int))).take a.length == (a.map (fun x : Nat => (x : Int))).take a.length) = O6.within a b := by
  rw [List.take_of_length_le (l := a.map (fun x : Nat => (x : Int))) (by simp)]
  rw [Bool.eq_iff_iff, beq_iff_eq, O6.within_iff]
  constructor
  · intro e
    rw [← List.map_take] at e
    have h2 : b.take a.length = a := by
      have h3 := congrArg (List.map Int.toNat) e
      rw [List.map_map, List.map_map] at h3
      have h4 : (Int.toNat ∘ fun x : Nat => (x : Int)) = id := by funext x; simp
      rw [h4, List.map_id, List.map_id] at h3
      exact h3
    refine ⟨b.drop a.length, ?_⟩
    have h5 := List.take_append_drop a.length b
    rw [h2] at h5
    exact h5.symm
  · rintro ⟨t, rfl⟩
    rw [List.map_append, List.take_left' (by simp)]
set_option maxRecDepth 100000 in
set_option maxHeartbeats 2000000 in
theorem behind_walk (r s : List UInt8) (hr : r.length ≤ 1000000) (hs : s.length ≤ 1000000) (w : World) (T : Tabs w) :
    Calls Tryd.prog 46 #[.string (bs r), .string (bs s)] w (BhPost r s w) := by
  have HB := Lib.hid (both_walk r s hr hs w T)
  have hlr := arL_len r
  have hls := arL_len s
  unfold BoPost at HB
  unfold BhPost
  cases hok : ((arcs r).isSome && (arcs s).isSome)
  · rw [hok] at HB
    have hw : wi r s = false := by
      unfold wi
      rw [← Bool.and_assoc, hok]; rfl
    rw [hw]
    clear hok hw
    go_enter Tryd.func46, Tryd.ntmps46
    go_wp2_with fail
    refine HB.out.mono ?_
    rintro e w1 ⟨va, vb, rfl, b1, ⟨o1, n1, d1, rfl⟩, ⟨o2, n2, d2, rfl⟩, -⟩
    go_wp2
    go_ret2
    exact ⟨_, _, _, rfl, b1, fun h => by cases h⟩
  · rw [hok] at HB
    have hw : wi r s = O6.within (arL r) (arL s) := by
      unfold wi
      rw [← Bool.and_assoc, hok]; rfl
    rw [hw]
    have h2r : 2 ≤ (arL r).length := by
      rw [Bool.and_eq_true] at hok
      obtain ⟨l, hl⟩ := Option.isSome_iff_exists.1 hok.1
      rw [(ar_some hl).2]
      exact (isArcs_len ((arcs_iff r l).1 hl).1).1
    have h2s : 2 ≤ (arL s).length := by
      rw [Bool.and_eq_true] at hok
      obtain ⟨l, hl⟩ := Option.isSome_iff_exists.1 hok.2
      rw [(ar_some hl).2]
      exact (isArcs_len ((arcs_iff s l).1 hl).1).1
    clear hok hw
    generalize arL r = A at *
    generalize arL s = B at *
    by_cases hlong : B.length < A.length
    · have hlong' : ((B.length : Nat) : Int) < (A.length : Nat) := by omega
      have hwn : O6.within A B = false := within_long hlong
      rw [hwn]
      clear hwn
      go_enter Tryd.func46, Tryd.ntmps46
      go_wp2_with fail
      refine HB.out.mono ?_
      rintro e w1 ⟨va, vb, rfl, b1, -, -, ho⟩
      obtain ⟨hoa, hob⟩ := ho trivial
      obtain ⟨ga, ca, cura, rfl, -, -, -, -⟩ := own_block hoa (by omega)
      obtain ⟨gb, cb, curb, rfl, -, -, -, -⟩ := own_block hob (by omega)
      clear hoa hob ho
      go_wp2
      go_ret2
      exact ⟨_, _, _, rfl, b1, fun h => by cases h⟩
    · have hle : A.length ≤ B.length := by omega
      have hle' : ((A.length : Nat) : Int) ≤ (B.length : Nat) := by omega
      have HEQ := Lib.hid (ints_take A B hle)
      go_enter Tryd.func46, Tryd.ntmps46
      go_wp2_with fail
      refine HB.out.mono ?_
      rintro e w1 ⟨va, vb, rfl, b1, -, -, ho⟩
      obtain ⟨hoa, hob⟩ := ho trivial
      obtain ⟨ga, ca, cura, rfl, -, hha, -, hca⟩ := own_block hoa (by omega)
      obtain ⟨gb, cb, curb, rfl, -, hhb, hcb1, hcb⟩ := own_block hob (by omega)
      have hcbm : cb ≤ 9223372036854775807 := by
        rcases hob.2 with ⟨hv, h1⟩ | ⟨g, cap, cur, hv, _, _, _, hm, _, _⟩
        · omega
        · injection hv with e1 e2 e3
          unfold maxLen at hm; omega
      have HCA := Lib.hid hca
      have HCB := Lib.hid hcb
      have hlt := lt_of_block hhb
      clear hoa hob ho hca hcb
      go_wp2_with fail
      refine (cut_walk gb 0 B.length cb A.length hle hcb1 hcbm w1).mono ?_
      rintro e w2 ⟨rfl, q, rfl⟩
      have b2 := Below_drewNg b1 q
      have HE := Lib.hid (Tryd.slices_Equal_int gb 0 A.length A.length ga 0 A.length ca (B.map fun x : Nat => (x : Int)) (A.map fun x : Nat => (x : Int)) (w1.drewN q) (by rw [List.length_map]; exact hle) (by rw [List.length_map]; exact Nat.le_refl _) (by omega) (by omega)
        (fun j hj => by
          rw [List.length_map] at hj
          rw [Nat.zero_add]
          refine (HCB.out j hj).trans ?_
          simp [List.getD, List.getElem?_eq_getElem hj])
        (fun j hj => by
          rw [List.length_map] at hj
          rw [Nat.zero_add]
          refine (HCA.out j hj).trans ?_
          simp [List.getD, List.getElem?_eq_getElem hj]))
      rw [HEQ.out] at HE
      go_wp2_with fail
      all_goals
        refine HE.out.mono ?_
        rintro e w3 ⟨rfl, q2, rfl⟩
        have b3 := Below_drewNg b1 (q + q2)
        go_wp2
        go_ret2
        refine ⟨_, _, _, rfl, b3, fun _ => ⟨by have := List.length_drop (i := A.length) (l := B); omega, ?_⟩⟩
        first
        | (refine .inl ?_; omega)
        | (refine .inr ⟨gb, A.length, by simp, hlt, fun i hi => ?_⟩
           refine (HCB.out (A.length + i) (by omega)).trans ?_
           unfold fz
           simp [List.getD, List.getElem?_drop])
theorem within_walk (r s : List UInt8) (hr : r.length ≤ 1000000) (hs : s.length ≤ 1000000) (w : World) (T : Tabs w) :
    Calls Tryd.prog 23 #[.string (bs r), .string (bs s)] w fun e w' => e = .returned (.bool (wi r s)) ∧ Below w.heap.size w w' := by
  have HB := Lib.hid (behind_walk r s hr hs w T)
  unfold BhPost at HB
  generalize wi r s = X at *
  go_enter Tryd.func23, Tryd.ntmps23
  go_wp2_with fail
  refine HB.out.mono ?_
  rintro e w1 ⟨o, n, c, rfl, b1, -⟩
  go_wp2
  go_ret
  exact ⟨rfl, b1⟩
theorem rest_walk (r s : List UInt8) (hr : r.length ≤ 1000000) (hs : s.length ≤ 1000000) (w : World) (T : Tabs w) :
    Calls Tryd.prog 21 #[.string (bs r), .string (bs s)] w fun e w' => e = .returned (.tuple #[.string (bs (rsS r s)), .int .i64 (rsE r s : Nat)]) ∧ Below w.heap.size w w' := by
  have HB := Lib.hid (behind_walk r s hr hs w T)
  have HT := Lib.hid T
  unfold BhPost at HB
  clear T
  cases hw : wi r s
  · rw [hw] at HB
    have HV := Lib.hid (show rsS r s = [] ∧ rsE r s = 60 by unfold rsS rsE; rw [hw]; exact ⟨rfl, rfl⟩)
    clear hw
    go_enter Tryd.func21, Tryd.ntmps21
    go_wp2_with fail
    refine HB.out.mono ?_
    rintro e w1 ⟨o, n, c, rfl, b1, -⟩
    go_wp2
    go_ret2
    rw [HV.out.1, HV.out.2]
    exact ⟨rfl, b1⟩
  · rw [hw] at HB
    have HV := Lib.hid (show rsS r s = put ((arL s).drop (arL r).length) ∧ rsE r s = 0 by unfold rsS rsE; rw [hw]; exact ⟨rfl, rfl⟩)
    have hls := arL_len s
    have hle : ∀ a ∈ (arL s).drop (arL r).length, a ≤ 4294967295 := by
      intro a ha
      have ha2 := List.mem_of_mem_drop ha
      cases hx : arcs s with
      | none => rw [(ar_none hx).2] at ha2; cases ha2
      | some l =>
        rw [(ar_some hx).2] at ha2
        exact isArcs_le ((arcs_iff s l).1 hx).1 a ha2
    have hl2 : ((arL s).drop (arL r).length).length ≤ 1000 := by rw [List.length_drop]; omega
    generalize (arL s).drop (arL r).length = D at *
    have HW := Lib.hid (fun ao cap w1 (h : RdZ w1 ao D.length (fz D)) (t : Tabs w1) => write_walk D hle hl2 ao cap w1 h t)
    clear hw hle
    go_enter Tryd.func21, Tryd.ntmps21
    go_wp2_with fail
    refine HB.out.mono ?_
    rintro e w1 ⟨o, n, c, rfl, b1, hz⟩
    obtain ⟨rfl, hz2⟩ := hz trivial
    go_wp2_with fail
    refine (HW.out o c w1 hz2 (HT.out.below b1)).mono ?_
    rintro e w2 ⟨rfl, d2⟩
    go_wp2
    go_ret2
    rw [HV.out.1, HV.out.2]
    exact ⟨rfl, b1.trans (d2.mono b1.size)⟩
end Go.Proofs.YtanainpapcblfaaDoor
