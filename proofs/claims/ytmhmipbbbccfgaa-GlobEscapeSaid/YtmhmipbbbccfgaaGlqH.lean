/- The program's Plain, Escape, Text, Match, walked. -/
import Derived.Test.YtmhmipbbbccfgaaGlqG
import Derived.Test.YtmhmipbbbccfgaaBld
namespace Go.Proofs.Ytmhmipbbbccfgaa
open Go.ChangeShapes Go.WideShapes Go.ChangeAt Go.RowKit K G13
set_option linter.unusedVariables false

theorem Bld.new1 (w : World) : Bld w.heap.size w.heap.size [] (w.alloc (.cells #[.pointer none, .slice none 0 0] 66)) :=
  .inl ⟨Nat.le_refl _, _, rowNew w _, World.ownsRow_nil _ _ _ _, by simp [Value.ownBlock]⟩
theorem text_walk (w : World) (b : Nat) (p : List UInt8) (h : GlR w b p) :
    Calls Try.prog 17 #[.pointer (some ⟨b, 0, none⟩)] w fun e w' => e = .returned (.string (bs p)) ∧ Below w.heap.size w w' := by
  obtain ⟨he, ao, cap, hP, hR⟩ := h
  have c0 := cellRow hP 0
  simp only [List.getElem?_toArray, List.getElem?_cons_zero] at c0
  clear hP hR he
  go_enter Try.func17, Try.ntmps17
  go_wp2
  go_ret
  exact ⟨rfl, Below.refl _ _⟩
theorem gmatch_walk (p s : List UInt8) (w : World) (hp : p.length ≤ 140737488355327) (hs : s.length ≤ 10000) :
    Calls Try.prog 10 #[.string (bs p), .string (bs s)] w fun e w' => e = .returned (.tuple #[.bool (mG p s), .int .i64 (eG p : Nat)]) ∧ Below w.heap.size w w' := by
  have HP := Lib.hid (parse_walk p hp w)
  have HM := Lib.hid (fun wx b h => pmatch_walk wx b p s h hs)
  have h0 : eG p ≠ 0 → mG p s = false := fun h => by unfold mG; rw [if_neg h]
  have h1 : eG p = 0 → mG p s = mt (lG p) s := fun h => by unfold mG; rw [if_pos h]
  have H0 := Lib.hid h0; have H1 := Lib.hid h1
  have hsm : eG p ≤ 130 := by unfold eG; split <;> (try split) <;> omega
  clear h0 h1 hp hs
  go_enter Try.func10, Try.ntmps10
  go_wp2_with fail
  refine HP.out.mono ?_
  rintro e w1 ⟨b1, ⟨he, b, rfl, hR⟩ | ⟨he, rfl⟩⟩
  · have HR := Lib.hid hR; have HB := Lib.hid b1; have HE := Lib.hid he
    clear hR he b1
    go_wp2_with fail
    refine (HM.out _ _ HR.out).mono ?_
    rintro e w2 ⟨rfl, b2⟩
    go_wp2
    go_ret2
    rw [H1.out HE.out, HE.out]
    exact ⟨rfl, HB.out.trans (b2.mono HB.out.size)⟩
  · have HB := Lib.hid b1; have HE := Lib.hid he
    have hne : (((eG p : Nat) : Int) != 0) = true := by rw [bne_iff_ne]; omega
    clear b1 he
    have HMG := Lib.hid (H0.out HE.out)
    obtain ⟨n, hn⟩ : ∃ n, eG p = n := ⟨_, rfl⟩
    have HN := Lib.hid hn
    rw [hn] at hne hsm
    rw [hn]
    clear hn H0 H1 HE HM HP
    go_wp2
    go_ret2
    rw [HMG.out, HN.out]
    exact ⟨rfl, HB.out⟩
/-! ### Escape -/
theorem sp_opn (b : UInt8) : sp13 b = (opn b.toNat || b.toNat == 92) := by
  have h : ∀ k : Nat, k < 256 → (b == UInt8.ofNat k) = (b.toNat == k) := fun k hk => by
    rw [Bool.eq_iff_iff, beq_iff_eq, beq_iff_eq]
    constructor
    · rintro rfl; rw [UInt8.toNat_ofNat']; omega
    · intro e; apply UInt8.toNat_inj.1; rw [UInt8.toNat_ofNat']; omega
  unfold sp13 opn
  rw [← h 42 (by decide), ← h 63 (by decide), ← h 91 (by decide), ← h 92 (by decide)]
  rfl
theorem esc_app (a b : List UInt8) : esc13 (a ++ b) = esc13 a ++ esc13 b := by
  induction a with
  | nil => rfl
  | cons x r ih => simp only [List.cons_append, esc13, ih]; split <;> simp
theorem esc_take (l : List UInt8) (p : Nat) (h : p < l.length) : esc13 (l.take (p + 1)) = esc13 (l.take p) ++ (if opn (byt l p) || byt l p == 92 then [92, l.getD p 0] else [l.getD p 0]) := by
  have hb : byt l p = (l[p]).toNat := by simp [byt, h]
  have hg : l.getD p 0 = l[p] := by simp [List.getD, h]
  rw [List.take_succ_eq_append_getElem h, esc_app, hb, hg, ← sp_opn]
  congr 1
theorem qbyt_getD (l : List UInt8) (p : Nat) : (l.getD p 0).toNat = byt l p := rfl
def EgRel (l : List UInt8) (w : World) (g : Nat) (v4 v7 : Value) (wr : World) : Prop :=
  ∃ p, p + g = l.length ∧ v7 = .int .i64 (p : Nat) ∧ Bld w.heap.size w.heap.size (esc13 (l.take p)) wr ∧ Below w.heap.size w wr
set_option maxRecDepth 100000 in
set_option maxHeartbeats 1000000 in
theorem gescape_walk (l : List UInt8) (hl : l.length ≤ 10000) (w : World) :
    Calls Try.prog 13 #[.string (bs l)] w fun e w' => e = .returned (.string (bs (esc13 l))) ∧ Below w.heap.size w w' := by
  have hbf := Bld.new1 w
  have hba : Below w.heap.size w (w.alloc (.cells #[.pointer none, .slice none 0 0] 66)) := (Below.refl _ _).alloc (Nat.le_refl _) _
  go_enter Try.func13, Try.ntmps13
  go_wp2
  go_loopg [4, 7] l.length (fun g v4 v7 wr => EgRel l w g v4 v7 wr)
  case atStart => exact ⟨0, by omega, rfl, hbf, hba⟩
  case round =>
    obtain ⟨p, hg, rfl, hB, hb⟩ := hrel
    clear hbf hba
    cases gk with
    | zero =>
      have hp : l.length ≤ p := by omega
      have HP := Lib.hid (show esc13 (l.take p) = esc13 l by rw [List.take_of_length_le (by omega)])
      have HS := Lib.hid (bstr _ _ _ _ hB hb.size)
      clear hB
      go_wp2_with fail
      refine HS.out.mono ?_
      rintro e w1 ⟨rfl, b1⟩
      have hb2 := hb.trans b1
      go_wp2
      go_ret
      rw [HP.out]
      exact ⟨rfl, hb2⟩
    | succ g =>
      have hp : p < l.length := by omega
      have HS := Lib.hid (esc_take l p hp)
      have hE : (esc13 (l.take p)).length ≤ 20000 := by
        have := (esc_len (l.take p)).2; rw [List.length_take] at this; omega
      have HOP := Lib.hid (fun w1 => isopen_walk (byt l p) (byt_lt l p) w1)
      have hx := qbyt_getD l p
      have HBY := Lib.hid (fun out w1 (h : Bld w.heap.size w.heap.size out w1) hl => wbyte w.heap.size w.heap.size out (l.getD p 0) w1 h hl)
      rw [hx] at HBY
      clear hx
      generalize esc13 (l.take p) = E at *
      generalize l.getD p 0 = x at *
      have HB := Lib.hid hb
      have HD := Lib.hid hB
      clear hb hB
      cases ho : opn (byt l p) with
      | true =>
        rw [ho] at HOP HS
        clear ho
        go_wp2_with fail
        refine (HOP.out _).mono ?_
        rintro e w1 ⟨rfl, rfl⟩
        go_wp2_with fail
        refine (wbyte _ _ E 92 _ HD.out (by omega) HB.out.size).mono ?_
        rintro e w2 ⟨rfl, hB2, b2⟩
        have hbd2 := HB.out.trans b2
        clear b2
        go_wp2_with fail
        refine (HBY.out _ _ hB2 (by simp; omega) hbd2.size).mono ?_
        rintro e w3 ⟨rfl, hB3, b3⟩
        have hbd3 := hbd2.trans b3
        clear hbd2 b3 hB2
        go_wp2
        go_roundg g
        case measure => omega
        case rel => exact ⟨p + 1, by omega, by simp, by rw [HS.out]; simpa using hB3, hbd3⟩
      | false =>
        rw [ho] at HOP HS
        clear ho
        by_cases h92 : byt l p = 92
        · rw [h92] at HS HOP HBY
          go_wp2_with fail
          refine (HOP.out _).mono ?_
          rintro e w1 ⟨rfl, rfl⟩
          go_wp2_with fail
          refine (wbyte _ _ E 92 _ HD.out (by omega) HB.out.size).mono ?_
          rintro e w2 ⟨rfl, hB2, b2⟩
          have hbd2 := HB.out.trans b2
          clear b2
          go_wp2_with fail
          refine (HBY.out _ _ hB2 (by simp; omega) hbd2.size).mono ?_
          rintro e w3 ⟨rfl, hB3, b3⟩
          have hbd3 := hbd2.trans b3
          clear hbd2 b3 hB2
          go_wp2
          go_roundg g
          case measure => omega
          case rel => exact ⟨p + 1, by omega, by simp, by rw [HS.out]; simpa using hB3, hbd3⟩
        · have h92i : (((byt l p : Nat) : Int) == 92) = false := by rw [beq_eq_false_iff_ne]; omega
          have h92n : (byt l p == 92) = false := by rw [beq_eq_false_iff_ne]; exact h92
          rw [h92n] at HS
          go_wp2_with fail
          refine (HOP.out _).mono ?_
          rintro e w1 ⟨rfl, rfl⟩
          go_wp2_with fail
          refine (HBY.out _ _ HD.out (by omega) HB.out.size).mono ?_
          rintro e w2 ⟨rfl, hB2, b2⟩
          have hbd2 := HB.out.trans b2
          go_wp2
          go_roundg g
          case measure => omega
          case rel => exact ⟨p + 1, by omega, by simp, by rw [HS.out]; exact hB2, hbd2⟩
/-! ### Plain -/
theorem bld_drewN {w : World} {B b : Nat} {l : List UInt8} (h : Bld B b l w) (n : Nat) : Bld B b l (w.drewN n) := h

theorem plain_step {l : List Pc} {c : UInt8} {t : List UInt8} (hr : pieces (c :: t) = some l) : (opn c.toNat = true ∧ G13.plain l = none) ∨ (opn c.toNat = false ∧ ∃ d q k, nb13 (c :: t) = some (d, q) ∧ pieces q = some k ∧ G13.plain l = (G13.plain k).map (d :: ·)) := by
  have hop : opn c.toNat = (c == 42 || c == 63 || c == 91) := by
    have h : ∀ k : Nat, k < 256 → (c == UInt8.ofNat k) = (c.toNat == k) := fun k hk => by
      rw [Bool.eq_iff_iff, beq_iff_eq, beq_iff_eq]
      constructor
      · rintro rfl; rw [UInt8.toNat_ofNat']; omega
      · intro e; apply UInt8.toNat_inj.1; rw [UInt8.toNat_ofNat']; omega
    unfold opn
    rw [← h 42 (by decide), ← h 63 (by decide), ← h 91 (by decide)]
    rfl
  rw [hop]
  rw [pieces_nx] at hr
  by_cases c1 : c = 42
  · subst c1
    refine .inl ⟨rfl, ?_⟩
    simp only [nx13, if_pos] at hr
    obtain ⟨k, _, rfl⟩ := Option.map_eq_some_iff.1 hr
    rfl
  by_cases c2 : c = 63
  · subst c2
    refine .inl ⟨rfl, ?_⟩
    have hn : nx13 63 t = some (.set fun _ => true, t) := by unfold nx13; rw [if_neg (by decide), if_pos rfl]
    rw [hn] at hr
    obtain ⟨k, _, rfl⟩ := Option.map_eq_some_iff.1 hr
    rfl
  by_cases c3 : c = 91
  · subst c3
    refine .inl ⟨rfl, ?_⟩
    have hn : nx13 91 t = (st13 t).map fun y => (.set y.1, y.2) := by unfold nx13; rw [if_neg (by decide), if_neg (by decide), if_pos rfl]
    rw [hn] at hr
    cases hs : st13 t with
    | none => rw [hs] at hr; cases hr
    | some y =>
      rw [hs] at hr
      obtain ⟨k, _, rfl⟩ := Option.map_eq_some_iff.1 hr
      rfl
  · refine .inr ⟨?_, ?_⟩
    · rw [Bool.or_eq_false_iff, Bool.or_eq_false_iff, beq_eq_false_iff_ne, beq_eq_false_iff_ne, beq_eq_false_iff_ne]
      exact ⟨⟨c1, c2⟩, c3⟩
    · have hn : nx13 c t = (nb13 (c :: t)).map fun y => (.one y.1, y.2) := by unfold nx13; rw [if_neg c1, if_neg c2, if_neg c3]
      rw [hn] at hr
      cases hs : nb13 (c :: t) with
      | none => rw [hs] at hr; cases hr
      | some y =>
        obtain ⟨d, q⟩ := y
        rw [hs] at hr
        obtain ⟨k, hk, rfl⟩ := Option.map_eq_some_iff.1 hr
        exact ⟨d, q, k, rfl, hk, rfl⟩
def QlRel (L : List Pc) (w : World) (g : Nat) (v5 : Value) (wr : World) : Prop :=
  ∃ r l out, r.length ≤ g ∧ r.length + out.length ≤ 256 ∧ v5 = .string (bs r) ∧ pieces r = some l ∧ G13.plain L = (G13.plain l).map (out ++ ·) ∧ Bld w.heap.size w.heap.size out wr ∧ Below w.heap.size w wr
theorem pieces_of {p : List UInt8} (h : eG p = 0) : p.length ≤ 256 ∧ pieces p = some (lG p) := by
  unfold eG at h
  split at h
  · omega
  · next hl =>
    split at h
    · omega
    · next hn =>
      refine ⟨by omega, ?_⟩
      unfold lG
      cases hp : pieces p with
      | none => rw [hp] at hn; exact absurd rfl hn
      | some l => rfl
set_option maxRecDepth 100000 in
set_option maxHeartbeats 1000000 in
theorem pplain_walk (w : World) (b : Nat) (p : List UInt8) (h : GlR w b p) :
    Calls Try.prog 15 #[.pointer (some ⟨b, 0, none⟩)] w fun e w' => e = .returned (.tuple #[.string (bs ((G13.plain (lG p)).getD [])), .bool (G13.plain (lG p)).isSome]) ∧ Below w.heap.size w w' := by
  obtain ⟨he, ao, cap, hP, hR⟩ := h
  obtain ⟨hlen, hpc⟩ := pieces_of he
  have c0 := cellRow hP 0
  simp only [List.getElem?_toArray, List.getElem?_cons_zero] at c0
  have hlt := lt_of_block hP
  have c0' : (w.alloc (.cells #[.pointer none, .slice none 0 0] 66)).cell? ⟨b, 0, none⟩ = some (.string (bs p)) := by
    rw [World.cell?_of_block (((Below.refl w.heap.size w).alloc (Nat.le_refl _) _).block b hlt)]; exact c0
  generalize lG p = L at *
  have H0 := Lib.hid (show QlRel L w p.length (.string (bs p)) (w.alloc (.cells #[.pointer none, .slice none 0 0] 66)) from ⟨p, L, [], Nat.le_refl _, by simpa using hlen, rfl, hpc, by cases G13.plain L <;> simp, Bld.new1 w, (Below.refl _ _).alloc (Nat.le_refl _) _⟩)
  clear hP hR he c0 hlt hpc hlen
  go_enter Try.func15, Try.ntmps15
  go_wp2
  go_loopg [5] p.length (fun g v5 wr => QlRel L w g v5 wr)
  case atStart => exact H0.out
  case round =>
    obtain ⟨r, l, out, hrg, hro, rfl, hpc, hpl, hB, hb⟩ := hrel
    clear H0 c0'
    cases r with
    | nil =>
      have hl : l = [] := by rw [pieces_nil] at hpc; injection hpc with h; exact h.symm
      subst hl
      have HV := Lib.hid (show G13.plain L = some out by rw [hpl]; simp [G13.plain])
      have HS := Lib.hid (bstr _ _ _ _ hB hb.size)
      have hne : ([] : List UInt8).isEmpty = true := rfl
      clear hB hpl hpc hrg hro
      go_wp2_with fail
      refine HS.out.mono ?_
      rintro e w1 ⟨rfl, b1⟩
      have hb2 := hb.trans b1
      go_wp2
      go_ret2
      rw [HV.out]
      exact ⟨rfl, hb2⟩
    | cons c t =>
      have hne : (c :: t).isEmpty = false := rfl
      have hpos : 0 < (c :: t).length := by simp
      have hby : byt (c :: t) 0 = c.toNat := rfl
      have HOP := Lib.hid (fun w1 => isopen_walk (byt (c :: t) 0) (byt_lt (c :: t) 0) w1)
      have HNB := Lib.hid (fun w1 => nextbyte_walk (c :: t) (by omega) w1)
      rcases plain_step hpc with ⟨ho, hn⟩ | ⟨ho, d, q, k, hnb, hk, hp2⟩
      · have HV := Lib.hid (show G13.plain L = none by rw [hpl, hn]; rfl)
        rw [hby, ho, ← hby] at HOP
        clear hpl hpc hrg hro hB ho hn hby HNB
        generalize c :: t = s at *
        go_wp2_with fail
        refine (HOP.out _).mono ?_
        rintro e w1 ⟨rfl, rfl⟩
        go_wp2
        go_ret2
        rw [HV.out]
        exact ⟨rfl, hb⟩
      · have HV := Lib.hid (show G13.plain L = (G13.plain k).map ((out ++ [d]) ++ ·) by rw [hpl, hp2]; cases G13.plain k <;> simp)
        have hql := nb_len hnb
        rw [hby, ho, ← hby] at HOP
        rw [hnb, show byV (some (d, q)) = .tuple #[.int .u8 (d.toNat : Nat), .string (bs q), .bool true] from rfl] at HNB
        have HB := Lib.hid hb
        have HD := Lib.hid hB
        have HK := Lib.hid hk
        have HBY := Lib.hid (fun out w1 (h : Bld w.heap.size w.heap.size out w1) hl => wbyte w.heap.size w.heap.size out d w1 h hl)
        clear hpl hpc hB hb ho hby hnb hk hp2
        generalize c :: t = s at *
        generalize d.toNat = dn at *
        go_wp2_with fail
        refine (HOP.out _).mono ?_
        rintro e w1 ⟨rfl, rfl⟩
        go_wp2_with fail
        refine (HNB.out _).mono ?_
        rintro e w1 ⟨rfl, n1, rfl⟩
        have HD1 := Lib.hid (bld_drewN HD.out n1)
        have HB1 := Lib.hid (Below_drewN2 HB.out n1)
        go_wp2_with fail
        refine (HBY.out _ _ HD1.out (by omega) HB1.out.size).mono ?_
        rintro e w2 ⟨rfl, hB2, b2⟩
        have HB2 := Lib.hid (HB1.out.trans b2)
        have HD2 := Lib.hid hB2
        clear b2 hB2
        go_wp2
        go_roundg q.length
        case measure => omega
        case rel => exact ⟨q, k, out ++ [d], Nat.le_refl _, by simp only [List.length_append, List.length_singleton]; omega, rfl, HK.out, HV.out, HD2.out, HB2.out⟩
end Go.Proofs.Ytmhmipbbbccfgaa
