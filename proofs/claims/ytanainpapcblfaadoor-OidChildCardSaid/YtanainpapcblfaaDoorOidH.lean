/- The document's own Child, walked. -/
import Derived.Test.YtanainpapcblfaaDoorOidB
namespace Go.Proofs.YtanainpapcblfaaDoor
open Go.ChangeShapes Go.WideShapes Go.ChangeAt Go.RowKit K O6
set_option linter.unusedVariables false

theorem ownI_empty (w : World) (B : Nat) (T : TypeId) (hB : B ≤ w.heap.size) : OwnI (w.alloc (.cells #[] T)) B T (.slice (some ⟨w.heap.size, 0, none⟩) 0 0) [] :=
  ⟨rfl, .inr ⟨w.heap.size, 0, _, rfl, hB, rowNew w _, Nat.le_refl _, by unfold maxLen; omega, rfl, rfl⟩⟩
theorem OwnI.putAll {w : World} {B : Nat} {T : TypeId} {v : Value} {cs ds : List Nat} (h : w.ownsRow B T 1 v (cs.length + ds.length) (nums cs ++ nums ds)) : OwnI w B T v (cs ++ ds) := by
  unfold OwnI
  rw [List.length_append, nums_app]
  exact h
def chE (s : List UInt8) (x : Int) : Nat := match arcs s with
  | none => 60
  | some l => if inR x then (if isArcs (l ++ [x.toNat]) then 0 else 60) else 1
def chS (s : List UInt8) (x : Int) : List UInt8 := match arcs s with
  | none => []
  | some l => if inR x then (if isArcs (l ++ [x.toNat]) then put (l ++ [x.toNat]) else []) else []
theorem ch_none {s : List UInt8} (h : arcs s = none) (x : Int) : chE s x = 60 ∧ chS s x = [] := by unfold chE chS; rw [h]; exact ⟨rfl, rfl⟩
theorem ch_far {s : List UInt8} {l : List Nat} (h : arcs s = some l) {x : Int} (hx : inR x = false) : chE s x = 1 ∧ chS s x = [] := by
  unfold chE chS; rw [h]; simp [hx]
theorem ch_some {s : List UInt8} {l : List Nat} (h : arcs s = some l) {x : Int} (hx : inR x = true) :
    chE s x = (if isArcs (l ++ [x.toNat]) then 0 else 60) ∧ chS s x = (if isArcs (l ++ [x.toNat]) then put (l ++ [x.toNat]) else []) := by
  unfold chE chS; rw [h]; simp [hx]
set_option maxRecDepth 100000 in
set_option maxHeartbeats 1000000 in
theorem qchild_walk (s : List UInt8) (hs : s.length ≤ 140737488351232) (x : Int) (x0 : -9223372036854775808 ≤ x) (x1 : x ≤ 9223372036854775807) (w : World) :
    Calls Tryd.prog 20 #[.string (bs s), .int .i64 x] w fun e w' => e = .returned (.tuple #[.string (bs (chS s x)), .int .i64 (chE s x : Nat)]) ∧ Below w.heap.size w w' := by
  have HA := Lib.hid (qarcs_walk s hs w)
  unfold ArPost at HA
  cases hx : arcs s with
  | none =>
    rw [(ch_none hx x).1, (ch_none hx x).2]
    rw [(ar_none hx).1, (ar_none hx).2] at HA
    clear hx
    go_enter Tryd.func20, Tryd.ntmps20
    go_wp2_with fail
    refine HA.out.mono ?_
    rintro e w1 ⟨v, rfl, ho, d1⟩
    obtain ⟨ao, cap, rfl, _⟩ := ho.form
    clear ho
    go_wp2
    go_ret2
    exact ⟨rfl, d1⟩
  | some l =>
    obtain ⟨hia, _⟩ := (arcs_iff s l).1 hx
    have hlen := isArcs_len hia
    rw [(ar_some hx).1, (ar_some hx).2] at HA
    cases hr : inR x
    · rw [(ch_far hx hr).1, (ch_far hx hr).2]
      have hcs : x < 0 ∨ (0 ≤ x ∧ 4294967295 < x) := by
        unfold inR at hr
        rw [Bool.and_eq_false_iff, decide_eq_false_iff_not, decide_eq_false_iff_not] at hr
        omega
      clear hx hr hia
      rcases hcs with hc | ⟨hc, hc2⟩
      all_goals
        go_enter Tryd.func20, Tryd.ntmps20
        go_wp2_with fail
        refine HA.out.mono ?_
        rintro e w1 ⟨v, rfl, ho, d1⟩
        obtain ⟨ao, cap, rfl, _⟩ := ho.form
        clear ho
        go_wp2
        go_ret2
        exact ⟨rfl, d1⟩
    · have hxr : 0 ≤ x ∧ x ≤ 4294967295 := by
        unfold inR at hr
        rw [Bool.and_eq_true, decide_eq_true_eq, decide_eq_true_eq] at hr
        exact hr
      obtain ⟨X, rfl⟩ := Int.eq_ofNat_of_zero_le hxr.1
      have hch := ch_some hx hr
      rw [Int.toNat_natCast] at hch
      have HCH := Lib.hid hch
      have hX0 : (0 : Int) ≤ (X : Nat) := by omega
      have hX1 : ((X : Nat) : Int) ≤ 4294967295 := by omega
      clear hx hr hia hch hxr
      go_enter Tryd.func20, Tryd.ntmps20
      go_wp2_with fail
      refine HA.out.mono ?_
      rintro e w1 ⟨v, rfl, ho, d1⟩
      obtain ⟨ao, cap, rfl, hf⟩ := ho.form
      rcases hf with h0 | ⟨g, rfl, hBg, hgs, hcell⟩
      · omega
      · obtain ⟨i0, hi, hz0, hz1, hz2⟩ := info_of int_info6
        have hE := ownI_empty w1 w.heap.size 3 d1.size
        have bE := d1.alloc d1.size (.cells #[] 3)
        have hcE : ∀ i, i < l.length → (w1.alloc (.cells #[] 3)).cell? ⟨g, i, none⟩ = some (.int .i64 ((l.getD i 0 : Nat) : Int)) := fun i h =>
          (World.cell?_of_block (Below.heap_alloc _ _ _ hgs)).trans (hcell i h).1
        have hss : w1.heap.size < (w1.alloc (.cells #[] 3)).heap.size := by simp
        clear hcell ho HA
        go_wp2_with (at_builtin; refine wpList_append_own _ rfl _ _ 23 rfl w.heap.size 3 i0 (.int .i64 0) 1 8 Tryd.underlying23 hi hz0 hz1 hz2 rfl (by decide) _ _ _ rfl hE ⟨g, 0, none⟩ l.length cap (nums l) rfl (by rw [nums_len, Nat.mul_one]) ?c1 ?c2 ?c3 ?c4 ?c5 ?_)
        case c1 =>
          intro j u hj
          have hjl : j < l.length := by
            rcases Nat.lt_or_ge j l.length with h | h
            · exact h
            · rw [List.getElem?_eq_none (by rw [nums_len]; exact h)] at hj; cases hj
          rw [nums_get l j hjl] at hj
          cases hj
          have hadd : (Addr.add ⟨g, 0, none⟩ j) = ⟨g, j, none⟩ := by simp only [Addr.add, Nat.zero_add]; split <;> simp_all
          rw [hadd]
          exact hcE j hjl
        case c2 => intro u hu; obtain ⟨c, _, rfl⟩ := List.mem_map.1 hu; rfl
        case c3 => unfold maxLen; simp; omega
        case c4 => simp; omega
        case c5 => have := d1.size; simp; omega
        intro v2 w2 hown2 hgrow2 _
        have h2 : OwnI w2 w.heap.size 3 v2 ([] ++ l) := OwnI.putAll (cs := []) (by rw [List.length_nil, Nat.zero_add]; exact hown2)
        have b2 := bE.grown hgrow2 (by have := d1.size; simp; omega) (fun k hk => (World.ownsRow.lt hE k hk).1)
        rw [List.nil_append] at h2
        clear hown2 hgrow2 hE bE hcE hss d1 hBg hgs
        obtain ⟨ao2, cap2, rfl, _⟩ := h2.form
        go_wp2_with (at_builtin; refine wpList_append_own _ rfl _ _ 23 rfl w.heap.size 3 i0 (.int .i64 0) 1 8 Tryd.underlying23 hi hz0 hz1 hz2 rfl (by decide) _ _ _ rfl (World.ownsRow.alloc h2 _) ⟨w2.heap.size, 0, none⟩ 1 1 [.int .i64 (X : Nat)] rfl rfl ?c1 ?c2 ?c3 ?c4 ?c5 ?_)
        case c1 =>
          intro j u hj
          match j, hj with
          | 0, hj => simp at hj; subst hj; simp [Addr.add]
        case c2 => intro u hu; simp at hu; subst hu; rfl
        case c3 => unfold maxLen; omega
        case c4 => omega
        case c5 => have := b2.size; simp; omega
        intro v3 w3 hown3 hgrow3 _
        have h3 : OwnI w3 w.heap.size 3 v3 (l ++ [X]) := OwnI.put hown3
        have b3 := (b2.alloc b2.size (.cells #[.int .i64 (X : Nat)] 3)).grown hgrow3 (by have := b2.size; simp; omega) (fun k hk => (World.ownsRow.lt h2 k hk).1)
        clear hown3 hgrow3 h2 b2
        obtain ⟨ao3, cap3, rfl, hz⟩ := RdZ.own h3
        have hT := qtext_walk ao3 (l ++ [X]).length cap3 (fz (l ++ [X])) (by rw [List.length_append]; simp; omega) w3 hz (l ++ [X]) (fun h => ⟨rfl, by rw [← isZ_fz]; exact h, fun i _ => rfl⟩)
        rw [isZ_fz] at hT
        have hl1 : (l ++ [X]).length = l.length + 1 := by simp
        rw [hl1] at hT ⊢
        have HT := Lib.hid hT
        clear hT hz h3 hl1
        cases hia : isArcs (l ++ [X])
        all_goals
          rw [hia] at HT HCH
          simp only [Bool.false_eq_true, if_false, if_true] at HT HCH
          clear hia
          go_wp2_with fail
          refine HT.out.mono ?_
          rintro e w4 ⟨rfl, d4⟩
          go_wp2
          go_ret2
          rw [HCH.out.1, HCH.out.2]
          exact ⟨rfl, b3.trans (d4.mono b3.size)⟩
end Go.Proofs.YtanainpapcblfaaDoor
