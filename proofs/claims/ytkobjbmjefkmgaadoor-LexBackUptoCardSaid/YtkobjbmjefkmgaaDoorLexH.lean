/- The document's Quote, walked (gen_lexh.py writes this). -/
import Derived.Test.YtkobjbmjefkmgaaDoorLexE
import Derived.Test.YtkobjbmjefkmgaaDoorLexR
namespace Go.Proofs.YtkobjbmjefkmgaaDoor
open Go.ChangeShapes Go.WideShapes Go.ChangeAt Go.RowKit K L14
set_option linter.unusedVariables false

theorem ownY_new (w : World) (B : Nat) (hb : B ≤ w.heap.size) (b : UInt8) : OwnY (w.alloc (.cells #[.int .u8 (b.toNat : Nat)] 5)) B (.slice (some ⟨w.heap.size, 0, none⟩) 1 1) [b] :=
  ⟨by simp [byts], .inr ⟨w.heap.size, 1, #[.int .u8 (b.toNat : Nat)], rfl, hb, rowNew w _, Nat.le_refl _, by decide, rfl, rfl⟩⟩
/-- The rounds. -/
def QuRel (s : List UInt8) (w : World) (g : Nat) (v2 v3 : Value) (wr : World) : Prop :=
  ∃ i : Nat, i + g = s.length ∧ v3 = .int .i64 (i : Nat) ∧ OwnY wr w.heap.size v2 (34 :: qbd (s.take i)) ∧ Below w.heap.size w wr
theorem qbd_next (s : List UInt8) (i : Nat) (h : i < s.length) (c : UInt8) (hc : s[i] = c) {y : List UInt8} (hy : qb c = y) : (34 :: qbd (s.take i)) ++ y = 34 :: qbd (s.take (i + 1)) := by
  rw [List.take_succ_eq_append_getElem h, qbd_app, hc, ← hy]
  simp [qbd]
theorem qbd_take (s : List UInt8) (i : Nat) : (34 :: qbd (s.take i)).length ≤ 1 + 4 * s.length := by
  have h1 := (qbd_len (s.take i)).2
  have h2 : (s.take i).length ≤ s.length := by rw [List.length_take]; omega
  rw [List.length_cons]; omega
theorem qurel_next {s : List UInt8} {w w' : World} {v : Value} {i g : Nat} {y : List UInt8} {z : Int} (hi : i + (g + 1) = s.length) (hl : i < s.length) {c : UInt8} (hc : s[i] = c) (hy : qb c = y) (hz : z = ((i : Nat) : Int) + 1) (ho : OwnY w' w.heap.size v ((34 :: qbd (s.take i)) ++ y)) (hb : Below w.heap.size w w') : QuRel s w g v (.int .i64 z) w' := by
  rw [qbd_next s i hl c hc hy] at ho
  exact ⟨i + 1, by omega, by rw [hz]; rfl, ho, hb⟩
/-- Some bytes more, in a region walked by hand. -/
theorem appYo {o : Oper} {a : Act} {K : Act → World → Prop} {Q : Exit → Act → World → Prop} {W : World} {s x : Operand} (ho : o.op = .call { callee := .builtin .append, args := #[s, x], argTypes := #[56, 56] })
    {B : Nat} {v : Value} {l ys : List UInt8} {cs : Array Value} (hs : a.eval s = v) (hO : OwnY W B v l) {m : Nat} (hx : a.eval x = .slice (some ⟨W.heap.size, 0, none⟩) m m) (hcs : cs.toList = byts ys) (hm : m = ys.length) (hn : l.length + ys.length ≤ 100000000) (hB : B ≤ W.heap.size)
    (h : ∀ v' w', OwnY w' B v' (l ++ ys) → (∀ y, Below B y W → Below B y w') → K (a.put o.dst v') w') : o.wp Tryd.prog a (W.alloc (.cells cs 5)) K Q := by
  obtain ⟨i0, hi, hz0, hz1, hz2⟩ := info_of yinfo
  subst hm
  have hC := rowNew W (.cells cs 5)
  have hsz : (W.alloc (.cells cs 5)).heap.size = W.heap.size + 1 := by simp
  refine wp_append_own _ s x 56 ho B 5 i0 (.int .u8 0) 1 1 Tryd.underlying56 hi hz0 hz1 hz2 rfl (by decide) v l.length (byts l) hs (World.ownsRow.alloc hO _) ⟨W.heap.size, 0, none⟩ ys.length ys.length (byts ys) hx (by rw [byts_len, Nat.mul_one]) ?_ ?_ (by unfold maxLen; omega) (by omega) (by rw [hsz]; omega) ?_
  · intro j u hj
    have hc := cellRow hC j
    have ha : (⟨W.heap.size, 0, none⟩ : Addr).add j = ⟨W.heap.size, j, none⟩ := by
      by_cases h : j = 0
      · subst h; simp [Addr.add]
      · simp [Addr.add, h]
    rw [ha, hc, ← Array.getElem?_toList, hcs]
    exact hj
  · intro u hu
    obtain ⟨b, _, rfl⟩ := List.mem_map.1 hu
    rfl
  · intro v' w' hown hg _
    refine h v' w' ?_ fun y b => ?_
    · unfold OwnY
      rw [List.length_append, byts_app]
      exact hown
    · exact (b.alloc hB _).grown hg (by rw [hsz]; omega) (fun k hk => (World.ownsRow.lt hO k hk).1)
theorem hx_index (d : Nat) (h : d < 16) : ∀ w, (Instr.index 9 (.string { data := #[48, 49, 50, 51, 52, 53, 54, 55, 56, 57, 97, 98, 99, 100, 101, 102] }) (.int .u8 (d : Nat))).run Tryd.prog w = .ok (.int .u8 ((hxd d).toNat : Nat)) w := by
  intro w
  rw [run_index_string w 9 _ .u8 _ Tryd.underlying9]
  obtain rfl | rfl | rfl | rfl | rfl | rfl | rfl | rfl | rfl | rfl | rfl | rfl | rfl | rfl | rfl | rfl : d = 0 ∨ d = 1 ∨ d = 2 ∨ d = 3 ∨ d = 4 ∨ d = 5 ∨ d = 6 ∨ d = 7 ∨ d = 8 ∨ d = 9 ∨ d = 10 ∨ d = 11 ∨ d = 12 ∨ d = 13 ∨ d = 14 ∨ d = 15 := by omega
  all_goals rfl
set_option maxRecDepth 100000 in
set_option maxHeartbeats 1000000 in
theorem qquote_walk (s : List UInt8) (hs : s.length ≤ 1000000) (w : World) : Calls Tryd.prog 15 #[.string (bs s)] w fun e w' => e = .returned (.string (bs (quo s))) ∧ Below w.heap.size w w' := by
  have b0 := (Below.refl w.heap.size w).alloc (Nat.le_refl _) (.cells #[.int .u8 34] 5)
  have H0 := Lib.hid (show QuRel s w s.length (.slice (some ⟨w.heap.size, 0, none⟩) 1 1) (.int .i64 (0 : Nat)) (w.alloc (.cells #[.int .u8 34] 5)) from ⟨0, by omega, rfl, ownY_new w _ (Nat.le_refl _) 34, b0⟩)
  clear b0
  go_enter Tryd.func15, Tryd.ntmps15
  go_wp2
  go_loopg [4, 5, 6] s.length (fun g v4 v5 v6 wr => QuRel s w g v4 v5 wr)
  case atStart => exact H0.out
  case round =>
    obtain ⟨i, hig, rfl, hown, hb⟩ := hrel
    clear H0
    have HB := Lib.hid hb
    have hBs := hb.size
    clear hb
    by_cases hi : i < s.length
    · obtain ⟨G, rfl⟩ : ∃ G, gk = G + 1 := ⟨gk - 1, by omega⟩
      have hi2 : ((i : Nat) : Int) < ((s.length : Nat) : Int) := by omega
      obtain ⟨c, hc⟩ : ∃ c, s[i] = c := ⟨_, rfl⟩
      have hby : byt s i = c.toNat := by rw [byt_get s i hi, hc]
      have hbl := byt_lt s i
      have HIG := Lib.hid hig
      have HC := Lib.hid hc
      have hql : (34 :: qbd (s.take i)).length + 4 ≤ 100000000 := by have := qbd_take s i; omega
      have hcn : ∀ k : Nat, k < 256 → c ≠ UInt8.ofNat k → (((byt s i : Nat) : Int) == (k : Int)) = false := fun k hk hne => by
        rw [beq_eq_false_iff_ne]
        intro e
        apply hne
        apply UInt8.toNat_inj.1
        rw [UInt8.toNat_ofNat']
        rw [hby] at e
        omega
      clear hc
      by_cases c0 : c = 34
      · have hb : byt s i = 34 := by rw [hby, c0]; rfl
        subst c0
        clear hcn hby
        have HQ := Lib.hid (show qb 34 = [92, 34] by rfl)
        go_wp2_with (at_builtin; refine appY (ys := [92, 34]) rfl rfl rfl hown rfl (rfl) rfl (by simp at hql ⊢; omega) hBs ?_)
        intro v' w' hown2 hbb
        have HO2 := Lib.hid hown2; have HB2 := Lib.hid (hbb _ HB.out)
        clear hown2 hbb hown
        go_wp2
        go_roundg G
        case measure => omega
        case rel => exact qurel_next HIG.out hi HC.out HQ.out rfl HO2.out HB2.out
      have n34 : (((byt s i : Nat) : Int) == 34) = false := hcn 34 (by decide) c0
      by_cases c1 : c = 92
      · have hb : byt s i = 92 := by rw [hby, c1]; rfl
        subst c1
        clear hcn hby
        have HQ := Lib.hid (show qb 92 = [92, 92] by rfl)
        go_wp2_with (at_builtin; refine appY (ys := [92, 92]) rfl rfl rfl hown rfl (rfl) rfl (by simp at hql ⊢; omega) hBs ?_)
        intro v' w' hown2 hbb
        have HO2 := Lib.hid hown2; have HB2 := Lib.hid (hbb _ HB.out)
        clear hown2 hbb hown
        go_wp2
        go_roundg G
        case measure => omega
        case rel => exact qurel_next HIG.out hi HC.out HQ.out rfl HO2.out HB2.out
      have n92 : (((byt s i : Nat) : Int) == 92) = false := hcn 92 (by decide) c1
      by_cases c2 : c = 10
      · have hb : byt s i = 10 := by rw [hby, c2]; rfl
        subst c2
        clear hcn hby
        have HQ := Lib.hid (show qb 10 = [92, 110] by rfl)
        go_wp2_with (at_builtin; refine appY (ys := [92, 110]) rfl rfl rfl hown rfl (rfl) rfl (by simp at hql ⊢; omega) hBs ?_)
        intro v' w' hown2 hbb
        have HO2 := Lib.hid hown2; have HB2 := Lib.hid (hbb _ HB.out)
        clear hown2 hbb hown
        go_wp2
        go_roundg G
        case measure => omega
        case rel => exact qurel_next HIG.out hi HC.out HQ.out rfl HO2.out HB2.out
      have n10 : (((byt s i : Nat) : Int) == 10) = false := hcn 10 (by decide) c2
      by_cases c3 : c = 9
      · have hb : byt s i = 9 := by rw [hby, c3]; rfl
        subst c3
        clear hcn hby
        have HQ := Lib.hid (show qb 9 = [92, 116] by rfl)
        go_wp2_with (at_builtin; refine appY (ys := [92, 116]) rfl rfl rfl hown rfl (rfl) rfl (by simp at hql ⊢; omega) hBs ?_)
        intro v' w' hown2 hbb
        have HO2 := Lib.hid hown2; have HB2 := Lib.hid (hbb _ HB.out)
        clear hown2 hbb hown
        go_wp2
        go_roundg G
        case measure => omega
        case rel => exact qurel_next HIG.out hi HC.out HQ.out rfl HO2.out HB2.out
      have n9 : (((byt s i : Nat) : Int) == 9) = false := hcn 9 (by decide) c3
      by_cases c4 : c.toNat < 32 ∨ 127 ≤ c.toNat
      · have hqb : qb c = [92, 120, hxd (byt s i / 16), hxd (byt s i % 16)] := by
          unfold qb; rw [if_neg (fun h => h.elim c0 c1), if_neg c2, if_neg c3, if_pos c4, hby]
        have h32 : (((byt s i : Nat) : Int) < 32) ∨ (127 : Int) ≤ ((byt s i : Nat) : Int) := by omega
        have q1 : ((byt s i / 16 : Nat) : Int) = ((byt s i : Nat) : Int) / 16 := by omega
        have q2 : ((byt s i % 16 : Nat) : Int) = ((byt s i : Nat) : Int) % 16 := by omega
        have e1 : IntKind.u8.wrap (((byt s i : Nat) : Int) / 16) = ((byt s i / 16 : Nat) : Int) := by rw [IntWalk.u8_in _ (by omega)]; omega
        have e2 : IntKind.u8.wrap (((byt s i : Nat) : Int) % 16) = ((byt s i % 16 : Nat) : Int) := by rw [IntWalk.u8_in _ (by omega)]; omega
        have l1 : byt s i / 16 < 16 := by omega
        have l2 : byt s i % 16 < 16 := by omega
        have e3 : ((byt s i : Nat) : Int).tmod 16 = ((byt s i % 16 : Nat) : Int) := by rw [IntWalk.rem_in _ _ (by omega)]; omega
        have x1 := hx_index (byt s i / 16) l1
        have x2 := hx_index (byt s i % 16) l2
        have HQ := Lib.hid hqb
        clear hcn hby c0 c1 c2 c3 c4 q1 q2 hqb
        generalize byt s i / 16 = p at *
        generalize byt s i % 16 = q at *
        have e4 : IntKind.u8.wrap (q : Int) = (q : Int) := IntWalk.u8_in _ (by omega)
        have HOW := Lib.hid hown
        clear hown
        have HX1 := Lib.hid x1
        have HX2 := Lib.hid x2
        clear x1 x2
        by_cases h33 : ((byt s i : Nat) : Int) < 32
        · have x1 := HX1.out
          have x2 := HX2.out
          clear h32
          go_wp2_with fail
          refine wp_region_any (by kernel_rfl) ?_
          change wpAny _ _ _ _ _ _ _ (World.drew _)
          have bd : Below wr.heap.size wr (World.drew wr) := ⟨rfl, rfl, rfl, Nat.le_refl _, fun _ _ => rfl⟩
          have HOW1 := Lib.hid (HOW.out.below bd)
          have HB1 := Lib.hid (HB.out.trans (bd.mono hBs))
          have hBs2 : w.heap.size ≤ (World.drew wr).heap.size := hBs
          clear bd
          generalize World.drew wr = w1 at *
          refine wpAny_take (i := 0) (v := u4) rfl (by kernel_rfl) (by kernel_rfl) (by kernel_rfl) (fun _ _ _ h => h) (Or.inl ⟨by rfl, ?_⟩) ?_
          · intro w9
            go_simp
          refine wpAny_take (i := 1) (v := .string { data := #[48, 49, 50, 51, 52, 53, 54, 55, 56, 57, 97, 98, 99, 100, 101, 102] }) rfl (by kernel_rfl) (by kernel_rfl) (by kernel_rfl) (fun _ _ _ h => h) (Or.inl ⟨by rfl, ?_⟩) ?_
          · intro w9
            go_simp
          refine wpAny_take (i := 2) (v := .int .u8 (byt s i : Nat)) rfl (by kernel_rfl) (by kernel_rfl) (by kernel_rfl) (fun _ _ _ h => h) (Or.inl ⟨by rfl, ?_⟩) ?_
          · intro w9
            go_simp
          refine wpAny_take (i := 3) (v := .int .u8 (p : Nat)) rfl (by kernel_rfl) (by kernel_rfl) (by kernel_rfl) (fun _ _ _ h => h) (Or.inl ⟨by rfl, ?_⟩) ?_
          · intro w9
            go_simp
          refine wpAny_take (i := 4) (v := .int .u8 ((hxd p).toNat : Nat)) rfl (by kernel_rfl) (by kernel_rfl) (by kernel_rfl) (fun _ _ _ h => h) (Or.inl ⟨by rfl, ?_⟩) ?_
          · intro w9
            go_simp
          refine wpAny_take (i := 5) (v := .string { data := #[48, 49, 50, 51, 52, 53, 54, 55, 56, 57, 97, 98, 99, 100, 101, 102] }) rfl (by kernel_rfl) (by kernel_rfl) (by kernel_rfl) (fun _ _ _ h => h) (Or.inl ⟨by rfl, ?_⟩) ?_
          · intro w9
            go_simp
          refine wpAny_take (i := 6) (v := .int .u8 (byt s i : Nat)) rfl (by kernel_rfl) (by kernel_rfl) (by kernel_rfl) (fun _ _ _ h => h) (Or.inl ⟨by rfl, ?_⟩) ?_
          · intro w9
            go_simp
          refine wpAny_take (i := 7) (v := .int .u8 (q : Nat)) rfl (by kernel_rfl) (by kernel_rfl) (by kernel_rfl) (fun _ _ _ h => h) (Or.inl ⟨by rfl, ?_⟩) ?_
          · intro w9
            go_simp
          refine wpAny_take (i := 8) (v := .int .u8 ((hxd q).toNat : Nat)) rfl (by kernel_rfl) (by kernel_rfl) (by kernel_rfl) (fun _ _ _ h => h) (Or.inl ⟨by rfl, ?_⟩) ?_
          · intro w9
            go_simp
          clear x1 x2 e1 e2 e3 e4
          refine wpAny_ready (rs := [9]) (by kernel_rfl) (by simp) (AllReady.cons rfl (fun K hK => ?_) AllReady.nil)
          go_simp
          refine hK _ _ ?_
          clear hK K
          refine wpAny_ready (rs := [10]) (by kernel_rfl) (by simp) (AllReady.cons rfl (fun K hK => ?_) AllReady.nil)
          refine appYo (ys := [92, 120, hxd p, hxd q]) rfl rfl HOW1.out rfl rfl rfl (by simp at hql ⊢; omega) hBs2 ?_
          intro v' w' hown2 hbb
          have HO2 := Lib.hid hown2; have HB2 := Lib.hid (hbb _ HB1.out)
          clear hown2 hbb
          refine hK _ _ ?_
          clear hK K
          refine wpAny_ready (rs := [11]) (by kernel_rfl) (by simp) (AllReady.cons rfl (fun K hK => ?_) AllReady.nil)
          go_simp
          refine hK _ _ ?_
          clear hK K
          refine wpAny_done (by kernel_rfl) ?_ _
          go_wp2
          go_roundg G
          case measure => omega
          case rel => exact qurel_next HIG.out hi HC.out HQ.out rfl HO2.out HB2.out
        · have h34 : (127 : Int) ≤ ((byt s i : Nat) : Int) := by omega
          have x1 := HX1.out
          have x2 := HX2.out
          clear h32
          go_wp2_with fail
          refine wp_region_any (by kernel_rfl) ?_
          change wpAny _ _ _ _ _ _ _ (World.drew _)
          have bd : Below wr.heap.size wr (World.drew wr) := ⟨rfl, rfl, rfl, Nat.le_refl _, fun _ _ => rfl⟩
          have HOW1 := Lib.hid (HOW.out.below bd)
          have HB1 := Lib.hid (HB.out.trans (bd.mono hBs))
          have hBs2 : w.heap.size ≤ (World.drew wr).heap.size := hBs
          clear bd
          generalize World.drew wr = w1 at *
          refine wpAny_take (i := 0) (v := u4) rfl (by kernel_rfl) (by kernel_rfl) (by kernel_rfl) (fun _ _ _ h => h) (Or.inl ⟨by rfl, ?_⟩) ?_
          · intro w9
            go_simp
          refine wpAny_take (i := 1) (v := .string { data := #[48, 49, 50, 51, 52, 53, 54, 55, 56, 57, 97, 98, 99, 100, 101, 102] }) rfl (by kernel_rfl) (by kernel_rfl) (by kernel_rfl) (fun _ _ _ h => h) (Or.inl ⟨by rfl, ?_⟩) ?_
          · intro w9
            go_simp
          refine wpAny_take (i := 2) (v := .int .u8 (byt s i : Nat)) rfl (by kernel_rfl) (by kernel_rfl) (by kernel_rfl) (fun _ _ _ h => h) (Or.inl ⟨by rfl, ?_⟩) ?_
          · intro w9
            go_simp
          refine wpAny_take (i := 3) (v := .int .u8 (p : Nat)) rfl (by kernel_rfl) (by kernel_rfl) (by kernel_rfl) (fun _ _ _ h => h) (Or.inl ⟨by rfl, ?_⟩) ?_
          · intro w9
            go_simp
          refine wpAny_take (i := 4) (v := .int .u8 ((hxd p).toNat : Nat)) rfl (by kernel_rfl) (by kernel_rfl) (by kernel_rfl) (fun _ _ _ h => h) (Or.inl ⟨by rfl, ?_⟩) ?_
          · intro w9
            go_simp
          refine wpAny_take (i := 5) (v := .string { data := #[48, 49, 50, 51, 52, 53, 54, 55, 56, 57, 97, 98, 99, 100, 101, 102] }) rfl (by kernel_rfl) (by kernel_rfl) (by kernel_rfl) (fun _ _ _ h => h) (Or.inl ⟨by rfl, ?_⟩) ?_
          · intro w9
            go_simp
          refine wpAny_take (i := 6) (v := .int .u8 (byt s i : Nat)) rfl (by kernel_rfl) (by kernel_rfl) (by kernel_rfl) (fun _ _ _ h => h) (Or.inl ⟨by rfl, ?_⟩) ?_
          · intro w9
            go_simp
          refine wpAny_take (i := 7) (v := .int .u8 (q : Nat)) rfl (by kernel_rfl) (by kernel_rfl) (by kernel_rfl) (fun _ _ _ h => h) (Or.inl ⟨by rfl, ?_⟩) ?_
          · intro w9
            go_simp
          refine wpAny_take (i := 8) (v := .int .u8 ((hxd q).toNat : Nat)) rfl (by kernel_rfl) (by kernel_rfl) (by kernel_rfl) (fun _ _ _ h => h) (Or.inl ⟨by rfl, ?_⟩) ?_
          · intro w9
            go_simp
          clear x1 x2 e1 e2 e3 e4
          refine wpAny_ready (rs := [9]) (by kernel_rfl) (by simp) (AllReady.cons rfl (fun K hK => ?_) AllReady.nil)
          go_simp
          refine hK _ _ ?_
          clear hK K
          refine wpAny_ready (rs := [10]) (by kernel_rfl) (by simp) (AllReady.cons rfl (fun K hK => ?_) AllReady.nil)
          refine appYo (ys := [92, 120, hxd p, hxd q]) rfl rfl HOW1.out rfl rfl rfl (by simp at hql ⊢; omega) hBs2 ?_
          intro v' w' hown2 hbb
          have HO2 := Lib.hid hown2; have HB2 := Lib.hid (hbb _ HB1.out)
          clear hown2 hbb
          refine hK _ _ ?_
          clear hK K
          refine wpAny_ready (rs := [11]) (by kernel_rfl) (by simp) (AllReady.cons rfl (fun K hK => ?_) AllReady.nil)
          go_simp
          refine hK _ _ ?_
          clear hK K
          refine wpAny_done (by kernel_rfl) ?_ _
          go_wp2
          go_roundg G
          case measure => omega
          case rel => exact qurel_next HIG.out hi HC.out HQ.out rfl HO2.out HB2.out
      · have hqb : qb c = [c] := by
          unfold qb; rw [if_neg (fun h => h.elim c0 c1), if_neg c2, if_neg c3, if_neg c4]
        have h32 : ¬ ((byt s i : Nat) : Int) < 32 := by omega
        have h127 : ¬ (127 : Int) ≤ ((byt s i : Nat) : Int) := by omega
        have HBY := Lib.hid hby
        clear hcn hby c0 c1 c2 c3 c4
        have HQ := Lib.hid (show qb c = [c] by exact hqb)
        go_wp2_with (at_builtin; refine appY (ys := [c]) rfl rfl rfl hown rfl (by simp [byts, HBY.out]) rfl (by simp at hql ⊢; omega) hBs ?_)
        intro v' w' hown2 hbb
        have HO2 := Lib.hid hown2; have HB2 := Lib.hid (hbb _ HB.out)
        clear hown2 hbb hown
        go_wp2
        go_roundg G
        case measure => omega
        case rel => exact qurel_next HIG.out hi HC.out HQ.out rfl HO2.out HB2.out
    · have hi2 : ¬ ((i : Nat) : Int) < ((s.length : Nat) : Int) := by omega
      have hql : (34 :: qbd (s.take i)).length + 4 ≤ 100000000 := by have := qbd_take s i; omega
      have HQ := Lib.hid (show (34 :: qbd (s.take i)) ++ [34] = quo s by rw [List.take_of_length_le (by omega)]; rfl)
      go_wp2_with (at_builtin; refine appY (ys := [34]) rfl rfl rfl hown rfl (rfl) rfl (by simp at hql ⊢; omega) hBs ?_)
      intro v' w' hown2 hbb
      have HO2 := Lib.hid hown2; have HB2 := Lib.hid (hbb _ HB.out)
      have hcv : (convert 56 9 v').run Tryd.prog w' = .ok (.string (bs (quo s))) w' := by
        have h := hown2.conv
        rw [← HQ.out]; exact h
      clear hown2 hbb hown
      go_wp2
      go_ret
      exact ⟨rfl, HB2.out⟩
end Go.Proofs.YtkobjbmjefkmgaaDoor
