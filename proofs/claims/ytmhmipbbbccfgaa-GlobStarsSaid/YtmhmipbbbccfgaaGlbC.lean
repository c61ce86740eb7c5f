/- The document's member and one. -/
import Derived.Test.YtmhmipbbbccfgaaGlbA
import Derived.Deep.WholeRow
namespace Go.Proofs.Ytmhmipbbbccfgaa
open Go.ChangeShapes Go.WideShapes Go.ChangeAt Go.RowKit K G13
set_option linter.unusedVariables false
theorem zt1 (w : World) : (zeroValue 57).run Try.prog w = .ok (.agg (Array.replicate 258 (.bool false))) w := by kernel_rfl
theorem zt2 (w : World) : (zeroValue 55).run Try.prog w = .ok (.agg (Array.replicate 256 (.bool false))) w := by kernel_rfl
theorem sz1 : (Try.prog.info? 57).map (·.size) = some 258 := by kernel_rfl
theorem all_one {c : Array Value} (h : c.all (·.oneCell') = true) (i : Nat) (v : Value) (hv : v.oneCell' = true) : (c.setIfInBounds i v).all (·.oneCell') = true := by
  rw [Array.all_eq_true_iff_forall_mem] at h ⊢
  intro x hx
  rcases Array.mem_or_eq_of_mem_setIfInBounds hx with h1 | rfl
  · exact h x h1
  · exact hv
theorem size_alloc1 (w : World) (o : Obj) : (w.alloc o).heap.size = w.heap.size + 1 := by
  show (w.heap.push o).size = _
  rw [Array.size_push]
/-- A whole row into the block that was made last, behind another one; out of it; into the one ahead. -/
theorem store_two (w : World) (O : Obj) (t : TypeId) (c c' : Array Value) (hi : (Try.prog.info? t).map (·.size) = some c'.size) (ho : c.size = c'.size) (h1 : c'.all (·.oneCell') = true) :
    (storeCells ⟨w.heap.size + 1, 0, none⟩ c'.toList 0).run Try.prog ((w.alloc O).alloc (.cells c t)) = .ok () ((w.alloc O).alloc (.cells c' t)) := by
  have h := run_storeCells_new (P := Try.prog) (w.alloc O) t c c' hi ho h1
  rw [size_alloc1] at h
  exact h
theorem load_two (w : World) (O : Obj) (t : TypeId) (c : Array Value) (n : Nat) (hn : c.size = n) :
    (loadCellsFrom ⟨w.heap.size + 1, 0, none⟩ 0 n #[]).run Try.prog ((w.alloc O).alloc (.cells c t)) = .ok c ((w.alloc O).alloc (.cells c t)) := by
  have h := run_loadCellsFrom_new (P := Try.prog) (w.alloc O) t c n hn
  rw [size_alloc1] at h
  exact h
theorem setRow_first (w : World) (c c' : Array Value) (t : TypeId) (D : Obj) : ((w.alloc (.cells c t)).alloc D).setRow w.heap.size c' = (w.alloc (.cells c' t)).alloc D := by
  simp only [World.setRow, World.alloc]
  congr 1
  apply Array.ext_getElem?
  intro i
  rw [Array.getElem?_modify]
  by_cases h : w.heap.size = i
  · subst h
    rw [if_pos rfl]
    simp [Array.getElem?_push, Array.size_push]
  · have h' : ¬ i = w.heap.size := fun e => h e.symm
    simp [h, h', Array.getElem?_push]
theorem store_first (w : World) (t : TypeId) (c c' : Array Value) (D : Obj) (hi : (Try.prog.info? t).map (·.size) = some c'.size) (ho : c.size = c'.size) (h1 : c'.all (·.oneCell') = true) :
    (storeCells ⟨w.heap.size, 0, none⟩ c'.toList 0).run Try.prog ((w.alloc (.cells c t)).alloc D) = .ok () ((w.alloc (.cells c' t)).alloc D) := by
  have hg : ((w.alloc (.cells c t)).alloc D).heap[w.heap.size]? = some (.cells c t (0, 0)) := heap_alloc2_old w _ _
  have := run_storeVar_row (P := Try.prog) _ _ t t c c' hg hi ho h1
  rw [setRow_first] at this
  cases hq : Try.prog.info? t with
  | none => simp [hq] at hi
  | some i =>
    have hs : c'.size = i.size := by simp [hq] at hi; omega
    simpa [storeVar, sizeOf, typeInfo, hq, Value.cells, hs] using this
theorem cell_two (w : World) (O : Obj) (t : TypeId) (c : Array Value) (j : Nat) : ((w.alloc O).alloc (.cells c t)).cell? ⟨w.heap.size + 1, j, none⟩ = c[j]? :=
  cell_of_row _ _ j c t (0, 0) (heap_alloc2_new w _ _)
theorem bool_beqk (n k : Nat) : (((n : Nat) : Int) == ((k : Nat) : Int)) = (n == k) := by
  rw [Bool.eq_iff_iff, beq_iff_eq, beq_iff_eq]; omega
/-- What member answers. -/
def mbV (s : List UInt8) : Value := match mem13 s with
  | none => .tuple #[.int .u8 0, .string (bs []), .bool false]
  | some (a, r) => .tuple #[.int .u8 (a.toNat : Nat), .string (bs r), .bool true]
set_option maxRecDepth 100000 in
set_option maxHeartbeats 1000000 in
theorem qmember_walk (s : List UInt8) (hs : s.length ≤ 140737488351232) (w : World) :
    Calls Try.prog 39 #[.string (bs s)] w fun e w' => e = .returned (mbV s) ∧ ∃ n, w' = w.drewN n := by
  cases s with
  | nil =>
    have HV := Lib.hid (show mbV [] = .tuple #[.int .u8 0, .string (bs []), .bool false] from rfl)
    have hne : ([] : List UInt8).isEmpty = true := rfl
    go_enter Try.func39, Try.ntmps39
    go_wp2
    go_ret3
    rw [HV.out]
    exact ⟨rfl, 0, rfl⟩
  | cons c t =>
    have hne : (c :: t).isEmpty = false := rfl
    have hb0 : byt (c :: t) 0 = c.toNat := rfl
    have hl0 : (0 : Nat) < (c :: t).length := by simp
    by_cases h1 : c = 93 ∨ c = 45
    · have HV := Lib.hid (show mbV (c :: t) = .tuple #[.int .u8 0, .string (bs []), .bool false] by simp only [mbV, mem13, if_pos h1])
      generalize c :: t = s at *
      rcases h1 with rfl | rfl
      · have h2 : byt s 0 = 93 := hb0
        clear hb0
        go_enter Try.func39, Try.ntmps39
        go_wp2
        go_ret3
        rw [HV.out]
        exact ⟨rfl, 0, rfl⟩
      · have h2 : byt s 0 = 45 := hb0
        clear hb0
        go_enter Try.func39, Try.ntmps39
        go_wp2
        go_ret3
        rw [HV.out]
        exact ⟨rfl, 0, rfl⟩
    · have n1 : ¬ c = 93 := fun h => h1 (.inl h)
      have n2 : ¬ c = 45 := fun h => h1 (.inr h)
      have m1 : ¬ byt (c :: t) 0 = 93 := fun h => n1 (UInt8.toNat_inj.1 h)
      have m2 : ¬ byt (c :: t) 0 = 45 := fun h => n2 (UInt8.toNat_inj.1 h)
      have q1 : (((byt (c :: t) 0 : Nat) : Int) == 93) = false := by rw [beq_eq_false_iff_ne]; omega
      have q2 : (((byt (c :: t) 0 : Nat) : Int) == 45) = false := by rw [beq_eq_false_iff_ne]; omega
      by_cases h3 : c = 92
      · subst h3
        have hx : byt (92 :: t) 0 = 92 := rfl
        cases t with
        | nil =>
          have HV := Lib.hid (show mbV [92] = .tuple #[.int .u8 0, .string (bs []), .bool false] from rfl)
          go_enter Try.func39, Try.ntmps39
          go_wp2
          go_ret3
          rw [HV.out]
          exact ⟨rfl, 0, rfl⟩
        | cons d q =>
          have HV := Lib.hid (show mbV (92 :: d :: q) = .tuple #[.int .u8 (d.toNat : Nat), .string (bs q), .bool true] from rfl)
          have HD := Lib.hid (show (92 :: d :: q).drop 2 = q from rfl)
          have HB := Lib.hid (show byt (92 :: d :: q) 1 = d.toNat from rfl)
          have hl2 : ¬ ((((92 :: d :: q : List UInt8).length : Nat) : Int) < 2) := by simp only [List.length_cons]; omega
          have hl1 : 1 < (92 :: d :: q : List UInt8).length := by simp only [List.length_cons]; omega
          have hl3 : 2 ≤ (92 :: d :: q : List UInt8).length := by simp only [List.length_cons]; omega
          have q3 : (((byt (92 :: d :: q) 0 : Nat) : Int) == 92) = true := rfl
          generalize 92 :: d :: q = s at *
          clear hb0 n1 n2 m1 m2
          go_enter Try.func39, Try.ntmps39
          go_wp2_with fail
          go_quiet (fail)
          go_wp2
          go_ret3
          rw [HV.out, ← HD.out, ← HB.out]
          exact ⟨rfl, _, rfl⟩
      · have q3 : (((byt (c :: t) 0 : Nat) : Int) != 92) = true := by
          rw [bne_iff_ne]; intro h; exact h3 (UInt8.toNat_inj.1 (show c.toNat = 92 by rw [hb0] at h; omega))
        have HV := Lib.hid (show mbV (c :: t) = .tuple #[.int .u8 (c.toNat : Nat), .string (bs t), .bool true] by simp only [mbV, mem13, if_neg h1, if_neg h3])
        have HD := Lib.hid (show (c :: t).tail = t from rfl)
        have HB := Lib.hid hb0
        generalize c :: t = s at *
        clear hb0 n1 n2 m1 m2 h1 h3
        go_enter Try.func39, Try.ntmps39
        go_wp2_with fail
        go_quiet (fail)
        go_wp2
        go_ret3
        rw [HV.out, ← HD.out, ← HB.out]
        exact ⟨rfl, _, rfl⟩
def pone (n : Nat) : Array Value := ((Array.replicate 258 (Value.bool false)).setIfInBounds 1 (.bool true)).setIfInBounds (2 + n) (.bool true)
set_option maxRecDepth 100000 in
set_option maxHeartbeats 1000000 in
theorem qone_walk (b : UInt8) (w : World) :
    Calls Try.prog 23 #[.int .u8 (b.toNat : Nat)] w fun e w' => e = .returned (.agg (pone b.toNat)) ∧ Below w.heap.size w w' := by
  have hb : b.toNat < 256 := b.toNat_lt
  have z1 := zt1
  have HP := Lib.hid (show pone b.toNat = ((Array.replicate 258 (Value.bool false)).setIfInBounds 1 (.bool true)).setIfInBounds (2 + b.toNat) (.bool true) from rfl)
  have hZs : (Array.replicate 258 (Value.bool false)).size = 258 := by simp
  have hZo : (Array.replicate 258 (Value.bool false)).all (·.oneCell') = true := by
    rw [Array.all_eq_true_iff_forall_mem]; intro x hx; rw [(Array.mem_replicate.1 hx).2]; rfl
  have hZ2 : (Array.replicate 258 (Value.bool false))[2 + b.toNat]? = some (.bool false) := by
    rw [Array.getElem?_replicate, if_pos (by omega)]
  generalize (Array.replicate 258 (Value.bool false)) = Z at *
  generalize b.toNat = n at *
  generalize pone n = PO at *
  have hs1 := store_two w (.cells Z 57) 57 Z (Z.setIfInBounds 1 (.bool true)) (by rw [sz1, Array.size_setIfInBounds, hZs]) (by rw [Array.size_setIfInBounds]) (all_one hZo _ _ rfl)
  have hl1 := load_two w (.cells Z 57) 57 ((Z.setIfInBounds 1 (.bool true)).setIfInBounds (2 + n) (.bool true)) 258 (by rw [Array.size_setIfInBounds, Array.size_setIfInBounds, hZs])
  have hs2 := store_first w 57 Z ((Z.setIfInBounds 1 (.bool true)).setIfInBounds (2 + n) (.bool true)) (.cells ((Z.setIfInBounds 1 (.bool true)).setIfInBounds (2 + n) (.bool true)) 57) (by rw [sz1, Array.size_setIfInBounds, Array.size_setIfInBounds, hZs]) (by rw [Array.size_setIfInBounds, Array.size_setIfInBounds]) (all_one (all_one hZo _ _ rfl) _ _ rfl)
  have hc1 := cell_two w (.cells Z 57) 57 (Z.setIfInBounds 1 (.bool true)) (2 + n)
  rw [Array.getElem?_setIfInBounds_ne (by omega), hZ2] at hc1
  simp only [Array.toList_setIfInBounds] at hs1 hs2
  have HZO := Lib.hid hZo
  clear hZo hZ2
  go_enter Try.func23, Try.ntmps23
  go_wp2_with fail
  refine wp_load_row 57 _ rfl (w.heap.size + 1) rfl 57 ((Z.setIfInBounds 1 (.bool true)).setIfInBounds (2 + n) (.bool true)) (0, 0) _ (heap_alloc2_new w _ _) Try.underlying57 rfl (by rw [sz1, Array.size_setIfInBounds, Array.size_setIfInBounds, hZs]) ?_
  go_wp2_with fail
  refine bodyPost_ret (results_cell_row rfl _ _ w.heap.size _ _ _ _ rfl (heap_alloc2_old w _ _) Try.underlying57 rfl (by rw [sz1, Array.size_setIfInBounds, Array.size_setIfInBounds, hZs])) rfl ?_
  rw [HP.out]
  exact ⟨rfl, ((Below.refl _ _).alloc (Nat.le_refl _) _).alloc (by rw [size_alloc1]; omega) _⟩
end Go.Proofs.Ytmhmipbbbccfgaa
