/- The program's Parse, walked. gen_glqf.py writes it. -/
import Derived.Test.YtmhmipbbbccfgaaGlqE
import Derived.Test.YtmhmipbbbccfgaaRws
namespace Go.Proofs.Ytmhmipbbbccfgaa
open Go.ChangeShapes Go.WideShapes Go.ChangeAt Go.RowKit K G13
set_option linter.unusedVariables false

def rowsQ (l : List Pc) : List (List Value) := l.map fun p => (pArr p).toList
theorem rowsQ_len (l : List Pc) : (rowsQ l).length = l.length := by simp [rowsQ]
theorem rowsQ_snoc (l : List Pc) (p : Pc) : rowsQ (l ++ [p]) = rowsQ l ++ [(pArr p).toList] := by simp [rowsQ]
theorem pcinfo : (Try.prog.info? 52).map (fun i => (i.zero, i.size, i.bytes)) = some (some (.agg #[.int .u64 0, .int .u64 0, .int .u64 0, .int .u64 0, .bool false]), 5, 40) := by kernel_rfl
/-- How the pattern of a text lies in a world. -/
def GlR (w : World) (b : Nat) (p : List UInt8) : Prop :=
  eG p = 0 ∧ ∃ ao cap, w.heap[b]? = some (.cells #[.string (bs p), .slice ao (lG p).length cap] 47 (0, 0)) ∧ RdRw w 52 5 ao (rowsQ (lG p))
theorem GlR.below {w w' : World} {b : Nat} {p : List UInt8} (h : GlR w b p) (k : Below w.heap.size w w') : GlR w' b p := by
  obtain ⟨e, ao, cap, h1, h2⟩ := h
  exact ⟨e, ao, cap, (k.block b (lt_of_block h1)).trans h1, h2.below k⟩
theorem row_grown13 {w w' : World} {r : Nat} {cs : Array Value} {U : TypeId} (h : w.heap[r]? = some (.cells cs U (0, 0))) {B : Nat} {T : TypeId} {n : Nat} {v : Value} {m : Nat} {xs : List Value} (k : w.grownBy w' v.ownBlock) (ho : w.ownsRow B T n v m xs) (hT : T ≠ U) : w'.heap[r]? = some (.cells cs U (0, 0)) := by
  refine (k.block r (lt_of_block h) (fun e => ?_)).trans h
  rcases ho.2 with ⟨rfl, _⟩ | ⟨g', cap, cur, rfl, _, hg, _⟩
  · simp [Value.ownBlock] at e
  · simp [Value.ownBlock] at e
    subst e
    rw [h] at hg
    injection hg with hg
    injection hg with _ hg
    exact hT hg.symm
theorem row_to13 {w : World} {b : Nat} {A B : Array Value} {T : TypeId} (h : w.heap[b]? = some (.cells A T (0, 0))) (e : A = B) : w.heap[b]? = some (.cells B T (0, 0)) := e ▸ h
/-- The rounds. -/
def PsRel (p : List UInt8) (w : World) (g : Nat) (v5 : Value) (wr : World) : Prop :=
  ∃ r l ao cap, r.length ≤ g ∧ v5 = .string (bs r) ∧ wr.heap[w.heap.size]? = some (.cells #[.string (bs p), .slice ao l.length cap] 47 (0, 0)) ∧ OwnR wr (w.heap.size + 1) 52 5 (.slice ao l.length cap) (rowsQ l) ∧ pieces p = (pieces r).map (l ++ ·) ∧ l.length + r.length ≤ 256 ∧ Below w.heap.size w wr
theorem ps_step {p r r' : List UInt8} {c : UInt8} {t : List UInt8} {l : List Pc} {x : Pc} (h : pieces p = (pieces (c :: t)).map (l ++ ·)) (h2 : nx13 c t = some (x, r')) : pieces p = (pieces r').map ((l ++ [x]) ++ ·) := by
  have := pieces_nx c t
  rw [h2] at this
  exact pi_step h this
theorem ps_none {p : List UInt8} {c : UInt8} {t : List UInt8} {l : List Pc} (h : pieces p = (pieces (c :: t)).map (l ++ ·)) (h2 : nx13 c t = none) (hp : p.length ≤ 256) : eG p = 130 := by
  have := pieces_nx c t
  rw [h2] at this
  exact pi_none h this hp
set_option maxRecDepth 100000 in
set_option maxHeartbeats 2000000 in
theorem parse_walk (p : List UInt8) (hp : p.length ≤ 140737488355327) (w : World) :
    Calls Try.prog 7 #[.string (bs p)] w fun e w' => Below w.heap.size w w' ∧ ((eG p = 0 ∧ ∃ b, e = .returned (.tuple #[.pointer (some ⟨b, 0, none⟩), .int .i64 0]) ∧ GlR w' b p) ∨ (eG p ≠ 0 ∧ e = .returned (.tuple #[.pointer none, .int .i64 (eG p : Nat)]))) := by
  by_cases h256 : 256 < p.length
  · have HE := Lib.hid (eG_big h256)
    have h9 : (256 : Int) < ((p.length : Nat) : Int) := by omega
    clear h256
    go_enter Try.func7, Try.ntmps7
    go_wp2
    go_ret2
    refine ⟨Below.refl _ _, .inr ⟨by rw [HE.out]; decide, ?_⟩⟩
    rw [HE.out]
    rfl
  have h9 : ¬ (256 : Int) < ((p.length : Nat) : Int) := by omega
  have HLEN := Lib.hid (show p.length ≤ 256 by omega)
  have hsz := World.size_alloc w (.cells #[.string (bs p), .slice none 0 0] 47)
  have H0 := Lib.hid (show PsRel p w p.length (.string (bs p)) (w.alloc (.cells #[.string (bs p), .slice none 0 0] 47)) from
    ⟨p, [], none, 0, Nat.le_refl _, rfl, rowNew w _, OwnR.nil _ _ _ _, by cases pieces p <;> simp, by simp; omega, (Below.refl _ _).alloc (Nat.le_refl _) _⟩)
  clear hp h256 hsz
  go_enter Try.func7, Try.ntmps7
  go_wp2
  go_loopg [5] p.length (fun g v5 wr => PsRel p w g v5 wr)
  case atStart => exact H0.out
  case round =>
    obtain ⟨r, l, ao, cap, hrg, rfl, hP, hown, hpi, hll, hb⟩ := hrel
    clear H0
    cases r with
    | nil =>
      obtain ⟨e1, e2⟩ := pi_end hpi HLEN.out
      have hf := hown.form (by decide)
      obtain ⟨ao', cap', hv, hcap, hrd, -⟩ := hf
      rw [rowsQ_len] at hv
      injection hv with hv1 hv2 hv3
      have hX : GlR wr w.heap.size p := ⟨e1, ao, cap, by rw [e2]; exact hP, by rw [e2, hv1]; exact hrd⟩
      have HX := Lib.hid (And.intro e1 (And.intro hX hb))
      have hne : ([] : List UInt8).isEmpty = true := rfl
      clear hown hpi hll hrg e1 e2 hrd hb hP hv1 hv2 hv3 hX hcap
      go_wp2
      go_ret2
      obtain ⟨e1, hX, hb⟩ := HX.out
      exact ⟨hb, .inl ⟨e1, _, rfl, hX⟩⟩
    | cons c t =>
      have hne : (c :: t).isEmpty = false := rfl
      have hlc : (c :: t).length = t.length + 1 := by simp
      have HN := Lib.hid (fun wx => nextpiece_walk c t (by simp only [List.length_cons] at hll ⊢; omega) wx)
      rw [hlc] at hrg hll
      have hb0 := hb.size
      have hlt := lt_of_block hP
      cases hnx : nx13 c t with
      | none =>
        have HE := Lib.hid (ps_none hpi hnx HLEN.out)
        rw [hnx] at HN
        have HB := Lib.hid hb
        clear hnx hpi hlc hown hP hb
        generalize c :: t = s at *
        go_wp2_with fail
        refine (HN.out _).mono ?_
        rintro e w1 ⟨b1, f, z, rfl⟩
        rw [pArr_lit]
        have HB1 := Lib.hid ((HB.out.trans (b1.mono hb0)).alloc (Nat.le_trans hb0 b1.size) (.cells #[.int .u64 ((wd f 0 : Nat) : Int), .int .u64 ((wd f 1 : Nat) : Int), .int .u64 ((wd f 2 : Nat) : Int), .int .u64 ((wd f 3 : Nat) : Int), .bool false] 52))
        clear b1
        generalize wd f 0 = n0 at *
        generalize wd f 1 = n1 at *
        generalize wd f 2 = n2 at *
        generalize wd f 3 = n3 at *
        go_wp2_with fail
        go_ret2
        refine ⟨HB1.out, .inr ⟨by rw [HE.out]; decide, ?_⟩⟩
        rw [HE.out]
        rfl
      | some q =>
        obtain ⟨x, r⟩ := q
        have hrl := nx_len hnx
        have HPI := Lib.hid (ps_step (r := c :: t) hpi hnx)
        have HPA := Lib.hid (show pArr x = #[.int .u64 ((wd (hq x) 0 : Nat) : Int), .int .u64 ((wd (hq x) 1 : Nat) : Int), .int .u64 ((wd (hq x) 2 : Nat) : Int), .int .u64 ((wd (hq x) 3 : Nat) : Int), .bool x.isAny] from rfl)
        rw [hnx] at HN
        have HB := Lib.hid hb
        have HP := Lib.hid hP
        have HO := Lib.hid hown
        clear hnx hpi hlc hown hP hb
        generalize c :: t = s at *
        go_wp2_with fail
        refine (HN.out _).mono ?_
        rintro e w1 ⟨b1, rfl⟩
        rw [HPA.out]
        generalize wd (hq x) 0 = n0 at *
        generalize wd (hq x) 1 = n1 at *
        generalize wd (hq x) 2 = n2 at *
        generalize wd (hq x) 3 = n3 at *
        generalize x.isAny = a at *
        have P1 := (b1.block _ hlt).trans HP.out
        have O1 := HO.out.below b1
        have B1 := HB.out.trans (b1.mono hb0)
        have hlt1 := lt_of_block P1
        have b2 : Below w1.heap.size w1 (w1.alloc (.cells #[.int .u64 (n0 : Nat), .int .u64 (n1 : Nat), .int .u64 (n2 : Nat), .int .u64 (n3 : Nat), .bool a] 52)) := (Below.refl _ _).alloc (Nat.le_refl _) _
        have P2 := (b2.block _ hlt1).trans P1
        have O2 := O1.below b2
        have B2 := B1.trans (b2.mono B1.size)
        have X2 := rowNew w1 (.cells #[.int .u64 (n0 : Nat), .int .u64 (n1 : Nat), .int .u64 (n2 : Nat), .int .u64 (n3 : Nat), .bool a] 52)
        have hne2 : w.heap.size ≠ w1.heap.size := by omega
        have hle2 : w.heap.size + 1 ≤ (w1.alloc (.cells #[.int .u64 (n0 : Nat), .int .u64 (n1 : Nat), .int .u64 (n2 : Nat), .int .u64 (n3 : Nat), .bool a] 52)).heap.size := by rw [World.size_alloc]; omega
        obtain ⟨xb, hxb⟩ : ∃ xb, w1.heap.size = xb := ⟨_, rfl⟩
        rw [hxb] at X2 hne2
        obtain ⟨w2, hw2⟩ : ∃ zz, w1.alloc (.cells #[.int .u64 (n0 : Nat), .int .u64 (n1 : Nat), .int .u64 (n2 : Nat), .int .u64 (n3 : Nat), .bool a] 52) = zz := ⟨_, rfl⟩
        rw [hw2] at P2 O2 B2 X2 hle2
        have HW2 := Lib.hid hw2
        have HXB := Lib.hid hxb
        clear b1 b2 P1 O1 B1 hw2 hxb hlt1 hlt
        go_wp2_with fail
        rw [HW2.out, HXB.out]
        go_cut [] (fun wx => ∃ (ao9 : Option Addr) (cap9 : Nat), wx.heap[w.heap.size]? = some (.cells #[.string (bs p), .slice ao9 (l.length + 1) cap9] 47 (0, 0)) ∧ OwnR wx (w.heap.size + 1) 52 5 (.slice ao9 (l.length + 1) cap9) (rowsQ l ++ [[.int .u64 (n0 : Nat), .int .u64 (n1 : Nat), .int .u64 (n2 : Nat), .int .u64 (n3 : Nat), .bool a]]) ∧ Below w.heap.size w wx)
        case first =>
          refine wp_region_any (by kernel_rfl) ?_
          change wpAny _ _ _ _ _ _ _ (World.drew _)
          have Pd : (World.drew w2).heap[w.heap.size]? = _ := P2
          have Xd : (World.drew w2).heap[xb]? = _ := X2
          have bd : Below w2.heap.size w2 (World.drew w2) := ⟨rfl, rfl, rfl, Nat.le_refl _, fun _ _ => rfl⟩
          have Od := O2.below bd
          have Bd : Below w.heap.size w (World.drew w2) := below_dw B2
          have hled : w.heap.size + 1 ≤ (World.drew w2).heap.size := hle2
          generalize World.drew w2 = w3 at *
          have zS : w3.cell? ⟨w.heap.size, 1, none⟩ = some (.slice ao l.length cap) := cellRow Pd 1
          obtain ⟨x0, x1, x2, x3, x4, -⟩ := cells5 Xd
          refine wpAny_take (i := 0) (v := .pointer (some ⟨w.heap.size, 0, none⟩)) rfl (by kernel_rfl) (by kernel_rfl) (by kernel_rfl) (fun _ _ _ h => h) (Or.inl ⟨by rfl, ?_⟩) ?_
          · intro w9
            go_simp
          refine wpAny_take (i := 1) (v := .pointer (some ⟨w.heap.size, 0, none⟩)) rfl (by kernel_rfl) (by kernel_rfl) (by kernel_rfl) (fun _ _ _ h => h) (Or.inl ⟨by rfl, ?_⟩) ?_
          · intro w9
            go_simp
          refine wpAny_take (i := 2) (v := .pointer (some ⟨w.heap.size, 0, none⟩)) rfl (by kernel_rfl) (by kernel_rfl) (by kernel_rfl) (fun _ _ _ h => h) (Or.inl ⟨by rfl, ?_⟩) ?_
          · intro w9
            go_simp
          refine wpAny_take (i := 3) (v := .pointer (some ⟨w.heap.size, 1, none⟩)) rfl (by kernel_rfl) (by kernel_rfl) (by kernel_rfl) (fun _ _ _ h => h) (Or.inl ⟨by rfl, ?_⟩) ?_
          · intro w9
            go_simp
          refine wpAny_ready (rs := [4, 5]) (by kernel_rfl) (by simp) (AllReady.cons rfl (fun K hK => ?_) (AllReady.cons rfl (fun K hK => ?_) AllReady.nil))
          · go_simp
            refine hK _ _ ?_
            clear hK K
            refine wpAny_ready (rs := [5]) (by kernel_rfl) (by simp) (AllReady.cons rfl (fun K hK => ?_) AllReady.nil)
            go_simp
            refine hK _ _ ?_
            clear hK K
            refine wpAny_ready (rs := [6]) (by kernel_rfl) (by simp) (AllReady.cons rfl (fun K hK => ?_) AllReady.nil)
            go_simp
            have b4 : Below w3.heap.size w3 (w3.alloc (.cells #[.int .u64 (n0 : Nat), .int .u64 (n1 : Nat), .int .u64 (n2 : Nat), .int .u64 (n3 : Nat), .bool a] 52)) := (Below.refl _ _).alloc (Nat.le_refl _) _
            have P4 := (b4.block _ (lt_of_block Pd)).trans Pd
            have O4 := Od.below b4
            have B4 := Bd.trans (b4.mono Bd.size)
            have X4 := rowNew w3 (.cells #[.int .u64 (n0 : Nat), .int .u64 (n1 : Nat), .int .u64 (n2 : Nat), .int .u64 (n3 : Nat), .bool a] 52)
            have hle4 : w.heap.size + 1 ≤ (w3.alloc (.cells #[.int .u64 (n0 : Nat), .int .u64 (n1 : Nat), .int .u64 (n2 : Nat), .int .u64 (n3 : Nat), .bool a] 52)).heap.size := by rw [World.size_alloc]; omega
            have zS4 : (w3.alloc (.cells #[.int .u64 (n0 : Nat), .int .u64 (n1 : Nat), .int .u64 (n2 : Nat), .int .u64 (n3 : Nat), .bool a] 52)).cell? ⟨w.heap.size, 1, none⟩ = some (.slice ao l.length cap) := cellRow P4 1
            refine hK _ _ ?_
            clear hK K
            refine wpAny_ready (rs := [7]) (by kernel_rfl) (by simp) (AllReady.cons rfl (fun K hK => ?_) AllReady.nil)
            refine appRw (fr := (0, 0)) rfl Try.underlying45 pcinfo rfl (by decide) (by decide) _ rfl O4 w3.heap.size [.int .u64 (n0 : Nat), .int .u64 (n1 : Nat), .int .u64 (n2 : Nat), .int .u64 (n3 : Nat), .bool a] rfl X4 rfl rfl (by intro u hu; simp at hu; rcases hu with rfl | rfl | rfl | rfl | rfl <;> rfl) (by rw [rowsQ_len]; omega) hle4 ?_
            intro v5 w5 O5 g5
            have P5 := row_grown13 P4 g5 O4.1 (by decide)
            have B5 := B4.grown g5 (Nat.le_of_succ_le hle4) (fun k hk => (by have := World.ownsRow.lt O4.1 k hk; omega))
            obtain ⟨ao5, cap5, hv5, -⟩ := O5.form (by decide)
            rw [List.length_append, rowsQ_len, List.length_singleton] at hv5
            subst hv5
            refine hK _ _ ?_
            clear hK K
            refine wpAny_take (i := 8) (v := .pointer (some ⟨w.heap.size, 0, none⟩)) rfl (by kernel_rfl) (by kernel_rfl) (by kernel_rfl) (fun _ _ _ h => h) (Or.inl ⟨by rfl, ?_⟩) ?_
            · intro w9
              go_simp
            refine wpAny_take (i := 9) (v := .pointer (some ⟨w.heap.size, 1, none⟩)) rfl (by kernel_rfl) (by kernel_rfl) (by kernel_rfl) (fun _ _ _ h => h) (Or.inl ⟨by rfl, ?_⟩) ?_
            · intro w9
              go_simp
            have z5 := cellRow P5 1
            have f5 := freeRow P5 1
            refine wpAny_ready (rs := [10]) (by kernel_rfl) (by simp) (AllReady.cons rfl (fun K hK => ?_) AllReady.nil)
            go_simp
            refine hK _ _ ?_
            clear hK K
            refine wpAny_done (by kernel_rfl) ?_ _
            have SP := Lib.hid (row_to13 (B := #[.string (bs p), .slice ao5 (l.length + 1) cap5]) (rowSet P5 1 (.slice ao5 (l.length + 1) cap5)) rfl)
            have SO := Lib.hid (O5.set P5 (by decide) 1 (.slice ao5 (l.length + 1) cap5))
            have SB := Lib.hid (B5.setCell (p := ⟨w.heap.size, 1, none⟩) (Nat.le_refl _) (.slice ao5 (l.length + 1) cap5))
            clear P5 O5 B5 z5 f5 P4 O4 B4 X4 b4 hle4 zS4 zS Pd Od Bd Xd
            go_wp2_with fail
            go_meet
            exact ⟨_, _, SP.out, SO.out, SB.out⟩
          · go_simp
            refine hK _ _ ?_
            clear hK K
            refine wpAny_ready (rs := [4, 6]) (by kernel_rfl) (by simp) (AllReady.cons rfl (fun K hK => ?_) (AllReady.cons rfl (fun K hK => ?_) AllReady.nil))
            · go_simp
              refine hK _ _ ?_
              clear hK K
              refine wpAny_ready (rs := [6]) (by kernel_rfl) (by simp) (AllReady.cons rfl (fun K hK => ?_) AllReady.nil)
              go_simp
              have b4 : Below w3.heap.size w3 (w3.alloc (.cells #[.int .u64 (n0 : Nat), .int .u64 (n1 : Nat), .int .u64 (n2 : Nat), .int .u64 (n3 : Nat), .bool a] 52)) := (Below.refl _ _).alloc (Nat.le_refl _) _
              have P4 := (b4.block _ (lt_of_block Pd)).trans Pd
              have O4 := Od.below b4
              have B4 := Bd.trans (b4.mono Bd.size)
              have X4 := rowNew w3 (.cells #[.int .u64 (n0 : Nat), .int .u64 (n1 : Nat), .int .u64 (n2 : Nat), .int .u64 (n3 : Nat), .bool a] 52)
              have hle4 : w.heap.size + 1 ≤ (w3.alloc (.cells #[.int .u64 (n0 : Nat), .int .u64 (n1 : Nat), .int .u64 (n2 : Nat), .int .u64 (n3 : Nat), .bool a] 52)).heap.size := by rw [World.size_alloc]; omega
              have zS4 : (w3.alloc (.cells #[.int .u64 (n0 : Nat), .int .u64 (n1 : Nat), .int .u64 (n2 : Nat), .int .u64 (n3 : Nat), .bool a] 52)).cell? ⟨w.heap.size, 1, none⟩ = some (.slice ao l.length cap) := cellRow P4 1
              refine hK _ _ ?_
              clear hK K
              refine wpAny_ready (rs := [7]) (by kernel_rfl) (by simp) (AllReady.cons rfl (fun K hK => ?_) AllReady.nil)
              refine appRw (fr := (0, 0)) rfl Try.underlying45 pcinfo rfl (by decide) (by decide) _ rfl O4 w3.heap.size [.int .u64 (n0 : Nat), .int .u64 (n1 : Nat), .int .u64 (n2 : Nat), .int .u64 (n3 : Nat), .bool a] rfl X4 rfl rfl (by intro u hu; simp at hu; rcases hu with rfl | rfl | rfl | rfl | rfl <;> rfl) (by rw [rowsQ_len]; omega) hle4 ?_
              intro v5 w5 O5 g5
              have P5 := row_grown13 P4 g5 O4.1 (by decide)
              have B5 := B4.grown g5 (Nat.le_of_succ_le hle4) (fun k hk => (by have := World.ownsRow.lt O4.1 k hk; omega))
              obtain ⟨ao5, cap5, hv5, -⟩ := O5.form (by decide)
              rw [List.length_append, rowsQ_len, List.length_singleton] at hv5
              subst hv5
              refine hK _ _ ?_
              clear hK K
              refine wpAny_take (i := 8) (v := .pointer (some ⟨w.heap.size, 0, none⟩)) rfl (by kernel_rfl) (by kernel_rfl) (by kernel_rfl) (fun _ _ _ h => h) (Or.inl ⟨by rfl, ?_⟩) ?_
              · intro w9
                go_simp
              refine wpAny_take (i := 9) (v := .pointer (some ⟨w.heap.size, 1, none⟩)) rfl (by kernel_rfl) (by kernel_rfl) (by kernel_rfl) (fun _ _ _ h => h) (Or.inl ⟨by rfl, ?_⟩) ?_
              · intro w9
                go_simp
              have z5 := cellRow P5 1
              have f5 := freeRow P5 1
              refine wpAny_ready (rs := [10]) (by kernel_rfl) (by simp) (AllReady.cons rfl (fun K hK => ?_) AllReady.nil)
              go_simp
              refine hK _ _ ?_
              clear hK K
              refine wpAny_done (by kernel_rfl) ?_ _
              have SP := Lib.hid (row_to13 (B := #[.string (bs p), .slice ao5 (l.length + 1) cap5]) (rowSet P5 1 (.slice ao5 (l.length + 1) cap5)) rfl)
              have SO := Lib.hid (O5.set P5 (by decide) 1 (.slice ao5 (l.length + 1) cap5))
              have SB := Lib.hid (B5.setCell (p := ⟨w.heap.size, 1, none⟩) (Nat.le_refl _) (.slice ao5 (l.length + 1) cap5))
              clear P5 O5 B5 z5 f5 P4 O4 B4 X4 b4 hle4 zS4 zS Pd Od Bd Xd
              go_wp2_with fail
              go_meet
              exact ⟨_, _, SP.out, SO.out, SB.out⟩
            · go_simp
              have b4 : Below w3.heap.size w3 (w3.alloc (.cells #[.int .u64 (n0 : Nat), .int .u64 (n1 : Nat), .int .u64 (n2 : Nat), .int .u64 (n3 : Nat), .bool a] 52)) := (Below.refl _ _).alloc (Nat.le_refl _) _
              have P4 := (b4.block _ (lt_of_block Pd)).trans Pd
              have O4 := Od.below b4
              have B4 := Bd.trans (b4.mono Bd.size)
              have X4 := rowNew w3 (.cells #[.int .u64 (n0 : Nat), .int .u64 (n1 : Nat), .int .u64 (n2 : Nat), .int .u64 (n3 : Nat), .bool a] 52)
              have hle4 : w.heap.size + 1 ≤ (w3.alloc (.cells #[.int .u64 (n0 : Nat), .int .u64 (n1 : Nat), .int .u64 (n2 : Nat), .int .u64 (n3 : Nat), .bool a] 52)).heap.size := by rw [World.size_alloc]; omega
              have zS4 : (w3.alloc (.cells #[.int .u64 (n0 : Nat), .int .u64 (n1 : Nat), .int .u64 (n2 : Nat), .int .u64 (n3 : Nat), .bool a] 52)).cell? ⟨w.heap.size, 1, none⟩ = some (.slice ao l.length cap) := cellRow P4 1
              refine hK _ _ ?_
              clear hK K
              refine wpAny_ready (rs := [4]) (by kernel_rfl) (by simp) (AllReady.cons rfl (fun K hK => ?_) AllReady.nil)
              go_simp
              refine hK _ _ ?_
              clear hK K
              refine wpAny_ready (rs := [7]) (by kernel_rfl) (by simp) (AllReady.cons rfl (fun K hK => ?_) AllReady.nil)
              refine appRw (fr := (0, 0)) rfl Try.underlying45 pcinfo rfl (by decide) (by decide) _ rfl O4 w3.heap.size [.int .u64 (n0 : Nat), .int .u64 (n1 : Nat), .int .u64 (n2 : Nat), .int .u64 (n3 : Nat), .bool a] rfl X4 rfl rfl (by intro u hu; simp at hu; rcases hu with rfl | rfl | rfl | rfl | rfl <;> rfl) (by rw [rowsQ_len]; omega) hle4 ?_
              intro v5 w5 O5 g5
              have P5 := row_grown13 P4 g5 O4.1 (by decide)
              have B5 := B4.grown g5 (Nat.le_of_succ_le hle4) (fun k hk => (by have := World.ownsRow.lt O4.1 k hk; omega))
              obtain ⟨ao5, cap5, hv5, -⟩ := O5.form (by decide)
              rw [List.length_append, rowsQ_len, List.length_singleton] at hv5
              subst hv5
              refine hK _ _ ?_
              clear hK K
              refine wpAny_take (i := 8) (v := .pointer (some ⟨w.heap.size, 0, none⟩)) rfl (by kernel_rfl) (by kernel_rfl) (by kernel_rfl) (fun _ _ _ h => h) (Or.inl ⟨by rfl, ?_⟩) ?_
              · intro w9
                go_simp
              refine wpAny_take (i := 9) (v := .pointer (some ⟨w.heap.size, 1, none⟩)) rfl (by kernel_rfl) (by kernel_rfl) (by kernel_rfl) (fun _ _ _ h => h) (Or.inl ⟨by rfl, ?_⟩) ?_
              · intro w9
                go_simp
              have z5 := cellRow P5 1
              have f5 := freeRow P5 1
              refine wpAny_ready (rs := [10]) (by kernel_rfl) (by simp) (AllReady.cons rfl (fun K hK => ?_) AllReady.nil)
              go_simp
              refine hK _ _ ?_
              clear hK K
              refine wpAny_done (by kernel_rfl) ?_ _
              have SP := Lib.hid (row_to13 (B := #[.string (bs p), .slice ao5 (l.length + 1) cap5]) (rowSet P5 1 (.slice ao5 (l.length + 1) cap5)) rfl)
              have SO := Lib.hid (O5.set P5 (by decide) 1 (.slice ao5 (l.length + 1) cap5))
              have SB := Lib.hid (B5.setCell (p := ⟨w.heap.size, 1, none⟩) (Nat.le_refl _) (.slice ao5 (l.length + 1) cap5))
              clear P5 O5 B5 z5 f5 P4 O4 B4 X4 b4 hle4 zS4 zS Pd Od Bd Xd
              go_wp2_with fail
              go_meet
              exact ⟨_, _, SP.out, SO.out, SB.out⟩
        case rest =>
          obtain ⟨ao9, cap9, P9, O9, B9⟩ := hcut
          obtain ⟨w9, rfl⟩ : ∃ zz : World, zz = wc := ⟨_, rfl⟩
          have HP9 := Lib.hid P9
          have HO9 := Lib.hid O9
          have HB9 := Lib.hid B9
          clear P9 O9 B9 P2 O2 B2 X2 hle2
          go_wp2
          go_roundg r.length
          case measure => omega
          case rel =>
            refine ⟨r, l ++ [x], ao9, cap9, Nat.le_refl _, rfl, ?_, ?_, HPI.out, by simp only [List.length_append, List.length_singleton]; omega, HB9.out⟩
            · rw [List.length_append, List.length_singleton]; exact HP9.out
            · rw [rowsQ_snoc, HPA.out, List.length_append, List.length_singleton]; exact HO9.out
end Go.Proofs.Ytmhmipbbbccfgaa
