/- The document's Parse of structured data, walked. -/
import Derived.Test.YtkpcfbadhoiigaaDoorQuoF
namespace Go.Proofs.YtkpcfbadhoiigaaDoor
open Go.ChangeShapes Go.WideShapes Go.ChangeAt Go.RowKit K Q10 U4
set_option linter.unusedVariables false

/-- None of an element's texts is longer than n, and it has no more params. -/
def Sml (n : Nat) (x : El) : Prop := x.id.length ≤ n ∧ x.ps.length ≤ n ∧ ∀ p ∈ x.ps, p.n.length ≤ n ∧ p.v.length ≤ n
theorem Sml.mono {n m : Nat} {x : El} (h : Sml n x) (k : n ≤ m) : Sml m x := ⟨by have := h.1; omega, by have := h.2.1; omega, fun p hp => by have := h.2.2 p hp; omega⟩
theorem prs_small : ∀ (n : Nat) (s : List UInt8), s.length ≤ n → ∀ l r, prsL s = some (l, r) → ∀ p ∈ l, p.n.length ≤ s.length ∧ p.v.length ≤ s.length
  | n, s, hn, l, r, h => by
    by_cases hs : ∃ t, s = 32 :: t
    · obtain ⟨t, rfl⟩ := hs
      cases n with
      | zero => simp at hn
      | succ n =>
        cases hp : pm1 t with
        | none => rw [prsL_none hp] at h; cases h
        | some x =>
          obtain ⟨p, q⟩ := x
          rw [prsL_step hp] at h
          obtain ⟨y, hy, he⟩ := Option.map_eq_some_iff.1 h
          simp only [Prod.mk.injEq] at he
          obtain ⟨rfl, rfl⟩ := he
          obtain ⟨h1, u, hu⟩ := pm1_len hp
          simp only [List.length_cons] at hn ⊢
          have ih := prs_small n q (by omega) y.1 y.2 hy
          intro p' hp'
          rcases List.mem_cons.1 hp' with rfl | hm
          · omega
          · have := ih p' hm; omega
    · rw [prsL_stop (fun t e => hs ⟨t, e⟩)] at h
      simp only [Option.some.injEq, Prod.mk.injEq] at h
      obtain ⟨rfl, rfl⟩ := h
      intro p hp; cases hp
theorem one_small {s : List UInt8} {x : El} {z : List UInt8} (h : one s = some (x, z)) : Sml s.length x := by
  obtain ⟨h1, h2⟩ := (one_iff s x z).1 h
  have h3 := prs_small _ _ (Nat.le_refl _) _ _ h2
  obtain ⟨_, h4, _⟩ := prs_len _ _ (Nat.le_refl _) _ _ h2
  have hl := congrArg List.length (nm_split s)
  simp only [List.length_append] at hl
  refine ⟨by rw [h1]; omega, by omega, fun p hp => ?_⟩
  have := h3 p hp; omega
theorem els_small : ∀ (n : Nat) (s : List UInt8), s.length ≤ n → ∀ l r, elsL s = some (l, r) → ∀ x ∈ l, Sml s.length x
  | n, s, hn, l, r, h => by
    by_cases hs : ∃ t, s = 91 :: t
    · obtain ⟨t, rfl⟩ := hs
      cases n with
      | zero => simp at hn
      | succ n =>
        cases hp : one t with
        | none => rw [elsL_none hp] at h; cases h
        | some x =>
          obtain ⟨x, q⟩ := x
          rw [elsL_step hp] at h
          obtain ⟨y, hy, he⟩ := Option.map_eq_some_iff.1 h
          simp only [Prod.mk.injEq] at he
          obtain ⟨rfl, rfl⟩ := he
          have h1 := (one_len hp).2.1
          simp only [List.length_cons] at hn ⊢
          have ih := els_small n q (by omega) y.1 y.2 hy
          intro x' hx'
          rcases List.mem_cons.1 hx' with rfl | hm
          · exact (one_small hp).mono (by omega)
          · exact (ih x' hm).mono (by omega)
    · rw [elsL_stop (fun t e => hs ⟨t, e⟩)] at h
      simp only [Option.some.injEq, Prod.mk.injEq] at h
      obtain ⟨rfl, rfl⟩ := h
      intro x hx; cases hx
theorem Sml.lim {n : Nat} {x : El} (h : Sml n x) (hn : n ≤ 10000) : LimE x := ⟨by have := h.1; omega, by have := h.2.1; omega, fun p hp => by have := h.2.2 p hp; omega⟩
/-- What Parse hands back. -/
def PaPost10 (l : List UInt8) (w : World) (e : Ending) (w' : World) : Prop :=
  (pa l = none ∧ e = .returned (.tuple #[.slice none 0 0, .string (bs []), .int .i64 100]) ∧ Below w.heap.size w w') ∨
  ∃ es r v, pa l = some (es, r) ∧ e = .returned (.tuple #[v, .string (bs r), .int .i64 0]) ∧ OwnE w' w.heap.size 45 47 v es ∧ Below w.heap.size w w'
def econs (es : List El) : Option (List El × List UInt8) → Option (List El × List UInt8)
  | some (q, r) => some (es ++ q, r)
  | none => none
theorem econs_nil (x : Option (List El × List UInt8)) : econs [] x = x := by rcases x with _ | ⟨o, r⟩ <;> rfl
theorem econs_map (es : List El) (p : El) (x : Option (List El × List UInt8)) : econs es (x.map fun y => (p :: y.1, y.2)) = econs (es ++ [p]) x := by
  rcases x with _ | ⟨o, r⟩
  · rfl
  · simp [econs]
theorem pa_what {l : List UInt8} (h : ∀ r, l ≠ 45 :: r) : (elsL l = none → pa l = none) ∧ ∀ es r, elsL l = some (es, r) → pa l = if !es.isEmpty && okL es then some (es, r) else none := by
  cases l with
  | nil =>
    refine ⟨fun _ => rfl, fun es r he => ?_⟩
    rw [elsL_stop (by simp)] at he
    simp only [Option.some.injEq, Prod.mk.injEq] at he
    obtain ⟨rfl, rfl⟩ := he
    rfl
  | cons b t =>
    have hb : b ≠ 45 := fun e => h t (by rw [e])
    refine ⟨fun he => ?_, fun es r he => ?_⟩
    · simp only [pa, if_neg hb, he]
    · simp only [pa, if_neg hb, he]
/-- What stands where an element may begin. -/
inductive EoAt (r : List UInt8) : Prop
  | stop (hs : elsL r = some ([], r)) (hnb : r = [] ∨ (r.isEmpty = false ∧ 0 < r.length ∧ byt r 0 ≠ 91))
  | bad (h0 : byt r 0 = 91) (hne : r.isEmpty = false) (hpos : 0 < r.length) (h : one r.tail = none) (e : elsL r = none)
  | go (h0 : byt r 0 = 91) (hne : r.isEmpty = false) (hpos : 0 < r.length) (x : El) (z : List UInt8) (h : one r.tail = some (x, z)) (e : elsL r = (elsL z).map fun y => (x :: y.1, y.2)) (hz : z.length + 2 ≤ r.length)
theorem eo_all (r : List UInt8) : EoAt r := by
  cases r with
  | nil => exact .stop (elsL_stop (by simp)) (.inl rfl)
  | cons b t =>
    by_cases hb : b = 91
    rotate_left
    · exact .stop (elsL_stop (fun t e => by injection e with e _; exact hb e)) (.inr ⟨rfl, by simp, fun e => hb (UInt8.toNat_inj.1 e)⟩)
    subst hb
    cases h : one t with
    | none => exact .bad rfl rfl (by simp) h (elsL_none h)
    | some x =>
      obtain ⟨x, z⟩ := x
      have := (one_len h).2.1
      exact .go rfl rfl (by simp) x z h (elsL_step h) (by simp only [List.length_cons]; omega)
theorem info_el : (Tryd.prog.info? 45).map (fun i => (i.zero, i.size, i.bytes)) = some (some (.agg #[.string .empty, .slice none 0 0]), 2, 40) := by kernel_rfl
def PgRel (l : List UInt8) (w : World) (g : Nat) (v0 v5 : Value) (wr : World) : Prop :=
  ∃ r es, r.length = g ∧ elsL l = econs es (elsL r) ∧ es.length + r.length ≤ l.length ∧ v0 = .string (bs r) ∧ OwnE wr w.heap.size 45 47 v5 es ∧ Below w.heap.size w wr
set_option maxRecDepth 100000 in
set_option maxHeartbeats 2000000 in
theorem qparse10_walk (l : List UInt8) (hl : l.length ≤ 10000) (w : World) :
    Calls Tryd.prog 10 #[.string (bs l)] w (PaPost10 l w) := by
  obtain ⟨i0, hi, hz0, hz1, hz2⟩ := info_parts info_el
  by_cases h45 : ∃ r, l = 45 :: r
  · obtain ⟨r, rfl⟩ := h45
    have HP := Lib.hid (show pa (45 :: r) = some ([], r) from rfl)
    have hb : byt (45 :: r) 0 = 45 := rfl
    have hne : (45 :: r : List UInt8).isEmpty = false := rfl
    have hpos : 1 ≤ (45 :: r : List UInt8).length := by simp
    have htl : (45 :: r : List UInt8).tail = r := rfl
    have HT := Lib.hid htl
    clear htl
    generalize (45 :: r : List UInt8) = L at *
    go_enter Tryd.func10, Tryd.ntmps10
    go_wp2_with fail
    go_quiet (fail)
    go_wp2
    go_ret3
    exact .inr ⟨[], r, .slice none 0 0, HP.out, by rw [HT.out]; rfl, OwnE.nil _ _ _ _, bdr (Below.refl _ _) _⟩
  have hpw := pa_what (fun r e => h45 ⟨r, e⟩)
  have hn45 : l.isEmpty = true ∨ (l.isEmpty = false ∧ 0 < l.length ∧ byt l 0 ≠ 45) := by
    cases l with
    | nil => exact .inl rfl
    | cons b t => exact .inr ⟨rfl, by simp, fun e => h45 ⟨t, by rw [show b = 45 from UInt8.toNat_inj.1 e]⟩⟩
  have HPW := Lib.hid hpw
  have HL := Lib.hid hl
  have HZ0 := Lib.hid hz0
  have HZ1 := Lib.hid hz1
  have HZ2 := Lib.hid hz2
  clear hpw h45 hz0 hz1 hz2 hl
  have HLoop : True := trivial
  go_enter Tryd.func10, Tryd.ntmps10
  rcases hn45 with hem | ⟨hne, hpos, hb⟩
  · have e1 : True := trivial
    have hne45 : True := trivial
    clear HLoop
    go_wp2_with fail
    go_loopg [0, 5] l.length (fun g v0 v5 wr => PgRel l w g v0 v5 wr)
    case atStart => exact ⟨l, [], rfl, (econs_nil _).symm, by simp, rfl, OwnE.nil _ _ _ _, Below.refl _ _⟩
    case round =>
      obtain ⟨r, es, hg, hes, hlen, rfl, ho, hb1⟩ := hrel
      have HG := Lib.hid hg
      have HLN := Lib.hid hlen
      have HO := Lib.hid ho
      have HB := Lib.hid hb1
      clear hg hlen ho hb1 e1 hem hne45
      cases eo_all r with
      | stop hs hnb =>
        have hE : elsL l = some (es, r) := by rw [hes, hs]; simp [econs]
        have HP := Lib.hid (HPW.out.2 es r hE)
        have hsm := els_small _ _ (Nat.le_refl _) _ _ hE
        have hlim : ∀ x ∈ es, LimE x := fun x hx => (hsm x hx).lim HL.out
        obtain ⟨ao, cap, rfl, hre, -, -, -⟩ := HO.out.form
        have hen : es.length ≤ 10000 := by have := HLN.out; have := HL.out; omega
        have HC := Lib.hid (fun w1 (h : RdE w1 ao es) => qcheck10_walk es ao cap (by omega) (fun _ => hlim) w1 h)
        have HRE := Lib.hid hre
        clear hes hs hE hsm hlim hre
        by_cases h0 : es.length = 0
        · have HN := Lib.hid (show pa l = none by rw [HP.out, List.length_eq_zero_iff.1 h0]; rfl)
          have h00 : ((es.length : Nat) : Int) = 0 := by omega
          clear HP HC HRE HO HLN h0
          generalize es.length = n at *
          rcases hnb with rfl | ⟨hne, hpos, hnb⟩
          · go_wp2
            go_ret3
            exact .inl ⟨HN.out, rfl, HB.out⟩
          · have e2 : (((byt r 0 : Nat) : Int) == 91) = false := by rw [beq_eq_false_iff_ne]; omega
            go_wp2
            go_ret3
            exact .inl ⟨HN.out, rfl, HB.out⟩
        have h01 : (((es.length : Nat) : Int) == 0) = false := by rw [beq_eq_false_iff_ne]; omega
        have hem : es.isEmpty = false := by cases es with | nil => simp at h0 | cons a b => rfl
        have HEM := Lib.hid hem
        clear h0 hem
        cases hok : okL es
        · have HN := Lib.hid (show pa l = none by rw [HP.out, hok]; simp)
          have hce := ckE_no hok
          rw [hce] at HC
          clear HP hok hce
          rcases hnb with rfl | ⟨hne, hpos, hnb⟩
          · go_wp2_with fail
            refine (HC.out _ HRE.out).mono ?_
            rintro e w2 ⟨rfl, d2⟩
            have b2 := HB.out.trans (d2.mono HB.out.size)
            go_wp2
            go_ret3
            exact .inl ⟨HN.out, rfl, b2⟩
          · have e2 : (((byt r 0 : Nat) : Int) == 91) = false := by rw [beq_eq_false_iff_ne]; omega
            go_wp2_with fail
            refine (HC.out _ HRE.out).mono ?_
            rintro e w2 ⟨rfl, d2⟩
            have b2 := HB.out.trans (d2.mono HB.out.size)
            go_wp2
            go_ret3
            exact .inl ⟨HN.out, rfl, b2⟩
        · have HN := Lib.hid (show pa l = some (es, r) by rw [HP.out, hok, HEM.out]; rfl)
          have hce := ckE_yes hok
          rw [hce] at HC
          clear HP hok hce
          rcases hnb with rfl | ⟨hne, hpos, hnb⟩
          · go_wp2_with fail
            refine (HC.out _ HRE.out).mono ?_
            rintro e w2 ⟨rfl, d2⟩
            have b2 := HB.out.trans (d2.mono HB.out.size)
            have o2 := HO.out.below d2
            go_wp2
            go_ret3
            exact .inr ⟨es, [], _, HN.out, rfl, o2, b2⟩
          · have e2 : (((byt r 0 : Nat) : Int) == 91) = false := by rw [beq_eq_false_iff_ne]; omega
            go_wp2_with fail
            refine (HC.out _ HRE.out).mono ?_
            rintro e w2 ⟨rfl, d2⟩
            have b2 := HB.out.trans (d2.mono HB.out.size)
            have o2 := HO.out.below d2
            go_wp2
            go_ret3
            exact .inr ⟨es, r, _, HN.out, rfl, o2, b2⟩
      | bad h0 hne hpos h e =>
        have HN := Lib.hid (HPW.out.1 (by rw [hes, e]; rfl))
        have hq := qone_walk r.tail (by rw [List.length_tail]; have := HLN.out; have := HL.out; omega) wr
        have HQ := Lib.hid hq
        have HH := Lib.hid h
        clear hes e h hq
        go_wp2_with fail
        refine HQ.out.mono ?_
        rintro e w2 (⟨-, rfl, d2⟩ | ⟨x, z, po, pc, h2, -⟩)
        rotate_left
        · have := HH.out; rw [h2] at this; cases this
        have b2 := HB.out.trans (d2.mono HB.out.size)
        go_wp2
        go_ret3
        exact .inl ⟨HN.out, rfl, b2.alloc b2.size _⟩
      | go h0 hne hpos x z h e hz =>
        have HE := Lib.hid (show elsL l = econs (es ++ [x]) (elsL z) by rw [hes, e, econs_map])
        have HQ := Lib.hid (qone_walk r.tail (by rw [List.length_tail]; have := HLN.out; have := HL.out; omega) wr)
        have HH := Lib.hid h
        have HZ := Lib.hid hz
        clear hes e h hz
        go_wp2_with fail
        refine HQ.out.mono ?_
        rintro e w2 (⟨h2, -⟩ | ⟨x', z', po, pc, h2, rfl, hrp, hpv, d2⟩)
        · have := HH.out; rw [h2] at this; cases this
        rw [HH.out] at h2
        injection h2 with h2
        injection h2 with h2 h3
        subst h2 h3
        have b2 := HB.out.trans (d2.mono HB.out.size)
        have o2 := HO.out.below d2
        have a2 := alloc_in' w2 (.cells #[.string (bs x.id), .slice po x.ps.length pc] 45)
        have b3 := b2.trans (a2.mono b2.size)
        have o3 := o2.below a2
        have hrp3 := hrp.below a2
        have hpv3 : Prv _ w.heap.size 47 po := (hpv w.heap.size).below a2
        have hx3 : (w2.alloc (.cells #[.string (bs x.id), .slice po x.ps.length pc] 45)).heap[w2.heap.size]? = some (.cells #[.string (bs x.id), .slice po x.ps.length pc] 45 (0, 0)) := rowNew w2 _
        have hs3 : w2.heap.size < (w2.alloc (.cells #[.string (bs x.id), .slice po x.ps.length pc] 45)).heap.size := by simp
        clear d2 b2 o2 a2 hrp hpv
        obtain ⟨zs, hz1, hown, hzp⟩ := o3
        have hzl : zs.length = es.length := by rw [← hz1, List.length_map]
        have hel : es.length ≤ 10000 := by have := HLN.out; have := HL.out; omega
        rw [← hzl] at hel
        clear h0 hne hpos
        go_wp2_with (at_builtin; refine wpList_append_own _ rfl _ _ 23 rfl w.heap.size 45 i0 (.agg #[.string .empty, .slice none 0 0]) 2 40 Tryd.underlying23 hi HZ0.out HZ1.out HZ2.out rfl (by decide) _ _ _ rfl (World.ownsRow.alloc hown _) _ 1 1 [.string (bs x.id), .slice po x.ps.length pc] rfl rfl ?c1 ?c2 ?c3 ?c4 ?c5 ?_)
        case c1 =>
          have hrn := rowNew (w2.alloc (.cells #[.string (bs x.id), .slice po x.ps.length pc] 45)) (.cells #[.string (bs x.id), .slice po x.ps.length pc] 45)
          rw [show (w2.alloc (.cells #[.string (bs x.id), .slice po x.ps.length pc] 45)).heap.size = w2.heap.size + 1 by simp] at hrn
          intro j u hj
          match j, hj with
          | 0, hj => simp at hj; subst hj; exact cellRow hrn 0
          | 1, hj => simp at hj; subst hj; exact cellRow hrn 1
          | j + 2, hj => simp at hj
        case c2 =>
          intro u hu
          simp at hu
          rcases hu with rfl | rfl
          · rfl
          · rfl
        case c3 => unfold maxLen; omega
        case c4 => omega
        case c5 => have := b3.size; simp at this ⊢; omega
        intro v' w4 hown' hgrow _
        have a4 := alloc_in' (w2.alloc (.cells #[.string (bs x.id), .slice po x.ps.length pc] 45)) (.cells #[.string (bs x.id), .slice po x.ps.length pc] 45)
        have hownA := World.ownsRow.alloc hown (.cells #[.string (bs x.id), .slice po x.ps.length pc] 45)
        have b4 := (b3.trans (a4.mono b3.size)).grown hgrow (by have := b3.size; simp at this ⊢; omega) (fun k hk => (World.ownsRow.lt hownA k hk).1)
        rw [← hzl] at hown'
        have o4 := OwnE.grown (ys := [(x, ⟨po, pc⟩)]) hownA (fun q hq => ⟨(hzp q hq).1.below a4, (hzp q hq).2.below a4⟩) (fun q hq => by simp at hq; subst hq; exact ⟨hrp3.below a4, .inr (hpv3.below a4)⟩) (by decide) hgrow hown'
        rw [hz1] at o4
        have HB4 := Lib.hid b4
        have HO4 := Lib.hid o4
        clear hown' hgrow hown hownA hzp b3 b4 o4 a4 hrp3 hpv3 hx3
        go_wp2
        go_roundg z.length
        case measure => have := HG.out; have := HZ.out; omega
        case rel => exact ⟨z, es ++ [x], rfl, HE.out, by have := HLN.out; have := HZ.out; simp; omega, rfl, HO4.out, HB4.out⟩
  · have e1 : (((byt l 0 : Nat) : Int) == 45) = false := by rw [beq_eq_false_iff_ne]; omega
    have hne45 : True := trivial
    clear HLoop
    go_wp2_with fail
    go_loopg [0, 5] l.length (fun g v0 v5 wr => PgRel l w g v0 v5 wr)
    case atStart => exact ⟨l, [], rfl, (econs_nil _).symm, by simp, rfl, OwnE.nil _ _ _ _, Below.refl _ _⟩
    case round =>
      obtain ⟨r, es, hg, hes, hlen, rfl, ho, hb1⟩ := hrel
      have HG := Lib.hid hg
      have HLN := Lib.hid hlen
      have HO := Lib.hid ho
      have HB := Lib.hid hb1
      clear hg hlen ho hb1 e1 hne hpos hb hne45
      cases eo_all r with
      | stop hs hnb =>
        have hE : elsL l = some (es, r) := by rw [hes, hs]; simp [econs]
        have HP := Lib.hid (HPW.out.2 es r hE)
        have hsm := els_small _ _ (Nat.le_refl _) _ _ hE
        have hlim : ∀ x ∈ es, LimE x := fun x hx => (hsm x hx).lim HL.out
        obtain ⟨ao, cap, rfl, hre, -, -, -⟩ := HO.out.form
        have hen : es.length ≤ 10000 := by have := HLN.out; have := HL.out; omega
        have HC := Lib.hid (fun w1 (h : RdE w1 ao es) => qcheck10_walk es ao cap (by omega) (fun _ => hlim) w1 h)
        have HRE := Lib.hid hre
        clear hes hs hE hsm hlim hre
        by_cases h0 : es.length = 0
        · have HN := Lib.hid (show pa l = none by rw [HP.out, List.length_eq_zero_iff.1 h0]; rfl)
          have h00 : ((es.length : Nat) : Int) = 0 := by omega
          clear HP HC HRE HO HLN h0
          generalize es.length = n at *
          rcases hnb with rfl | ⟨hne, hpos, hnb⟩
          · go_wp2
            go_ret3
            exact .inl ⟨HN.out, rfl, HB.out⟩
          · have e2 : (((byt r 0 : Nat) : Int) == 91) = false := by rw [beq_eq_false_iff_ne]; omega
            go_wp2
            go_ret3
            exact .inl ⟨HN.out, rfl, HB.out⟩
        have h01 : (((es.length : Nat) : Int) == 0) = false := by rw [beq_eq_false_iff_ne]; omega
        have hem : es.isEmpty = false := by cases es with | nil => simp at h0 | cons a b => rfl
        have HEM := Lib.hid hem
        clear h0 hem
        cases hok : okL es
        · have HN := Lib.hid (show pa l = none by rw [HP.out, hok]; simp)
          have hce := ckE_no hok
          rw [hce] at HC
          clear HP hok hce
          rcases hnb with rfl | ⟨hne, hpos, hnb⟩
          · go_wp2_with fail
            refine (HC.out _ HRE.out).mono ?_
            rintro e w2 ⟨rfl, d2⟩
            have b2 := HB.out.trans (d2.mono HB.out.size)
            go_wp2
            go_ret3
            exact .inl ⟨HN.out, rfl, b2⟩
          · have e2 : (((byt r 0 : Nat) : Int) == 91) = false := by rw [beq_eq_false_iff_ne]; omega
            go_wp2_with fail
            refine (HC.out _ HRE.out).mono ?_
            rintro e w2 ⟨rfl, d2⟩
            have b2 := HB.out.trans (d2.mono HB.out.size)
            go_wp2
            go_ret3
            exact .inl ⟨HN.out, rfl, b2⟩
        · have HN := Lib.hid (show pa l = some (es, r) by rw [HP.out, hok, HEM.out]; rfl)
          have hce := ckE_yes hok
          rw [hce] at HC
          clear HP hok hce
          rcases hnb with rfl | ⟨hne, hpos, hnb⟩
          · go_wp2_with fail
            refine (HC.out _ HRE.out).mono ?_
            rintro e w2 ⟨rfl, d2⟩
            have b2 := HB.out.trans (d2.mono HB.out.size)
            have o2 := HO.out.below d2
            go_wp2
            go_ret3
            exact .inr ⟨es, [], _, HN.out, rfl, o2, b2⟩
          · have e2 : (((byt r 0 : Nat) : Int) == 91) = false := by rw [beq_eq_false_iff_ne]; omega
            go_wp2_with fail
            refine (HC.out _ HRE.out).mono ?_
            rintro e w2 ⟨rfl, d2⟩
            have b2 := HB.out.trans (d2.mono HB.out.size)
            have o2 := HO.out.below d2
            go_wp2
            go_ret3
            exact .inr ⟨es, r, _, HN.out, rfl, o2, b2⟩
      | bad h0 hne hpos h e =>
        have HN := Lib.hid (HPW.out.1 (by rw [hes, e]; rfl))
        have hq := qone_walk r.tail (by rw [List.length_tail]; have := HLN.out; have := HL.out; omega) wr
        have HQ := Lib.hid hq
        have HH := Lib.hid h
        clear hes e h hq
        go_wp2_with fail
        refine HQ.out.mono ?_
        rintro e w2 (⟨-, rfl, d2⟩ | ⟨x, z, po, pc, h2, -⟩)
        rotate_left
        · have := HH.out; rw [h2] at this; cases this
        have b2 := HB.out.trans (d2.mono HB.out.size)
        go_wp2
        go_ret3
        exact .inl ⟨HN.out, rfl, b2.alloc b2.size _⟩
      | go h0 hne hpos x z h e hz =>
        have HE := Lib.hid (show elsL l = econs (es ++ [x]) (elsL z) by rw [hes, e, econs_map])
        have HQ := Lib.hid (qone_walk r.tail (by rw [List.length_tail]; have := HLN.out; have := HL.out; omega) wr)
        have HH := Lib.hid h
        have HZ := Lib.hid hz
        clear hes e h hz
        go_wp2_with fail
        refine HQ.out.mono ?_
        rintro e w2 (⟨h2, -⟩ | ⟨x', z', po, pc, h2, rfl, hrp, hpv, d2⟩)
        · have := HH.out; rw [h2] at this; cases this
        rw [HH.out] at h2
        injection h2 with h2
        injection h2 with h2 h3
        subst h2 h3
        have b2 := HB.out.trans (d2.mono HB.out.size)
        have o2 := HO.out.below d2
        have a2 := alloc_in' w2 (.cells #[.string (bs x.id), .slice po x.ps.length pc] 45)
        have b3 := b2.trans (a2.mono b2.size)
        have o3 := o2.below a2
        have hrp3 := hrp.below a2
        have hpv3 : Prv _ w.heap.size 47 po := (hpv w.heap.size).below a2
        have hx3 : (w2.alloc (.cells #[.string (bs x.id), .slice po x.ps.length pc] 45)).heap[w2.heap.size]? = some (.cells #[.string (bs x.id), .slice po x.ps.length pc] 45 (0, 0)) := rowNew w2 _
        have hs3 : w2.heap.size < (w2.alloc (.cells #[.string (bs x.id), .slice po x.ps.length pc] 45)).heap.size := by simp
        clear d2 b2 o2 a2 hrp hpv
        obtain ⟨zs, hz1, hown, hzp⟩ := o3
        have hzl : zs.length = es.length := by rw [← hz1, List.length_map]
        have hel : es.length ≤ 10000 := by have := HLN.out; have := HL.out; omega
        rw [← hzl] at hel
        clear h0 hne hpos
        go_wp2_with (at_builtin; refine wpList_append_own _ rfl _ _ 23 rfl w.heap.size 45 i0 (.agg #[.string .empty, .slice none 0 0]) 2 40 Tryd.underlying23 hi HZ0.out HZ1.out HZ2.out rfl (by decide) _ _ _ rfl (World.ownsRow.alloc hown _) _ 1 1 [.string (bs x.id), .slice po x.ps.length pc] rfl rfl ?c1 ?c2 ?c3 ?c4 ?c5 ?_)
        case c1 =>
          have hrn := rowNew (w2.alloc (.cells #[.string (bs x.id), .slice po x.ps.length pc] 45)) (.cells #[.string (bs x.id), .slice po x.ps.length pc] 45)
          rw [show (w2.alloc (.cells #[.string (bs x.id), .slice po x.ps.length pc] 45)).heap.size = w2.heap.size + 1 by simp] at hrn
          intro j u hj
          match j, hj with
          | 0, hj => simp at hj; subst hj; exact cellRow hrn 0
          | 1, hj => simp at hj; subst hj; exact cellRow hrn 1
          | j + 2, hj => simp at hj
        case c2 =>
          intro u hu
          simp at hu
          rcases hu with rfl | rfl
          · rfl
          · rfl
        case c3 => unfold maxLen; omega
        case c4 => omega
        case c5 => have := b3.size; simp at this ⊢; omega
        intro v' w4 hown' hgrow _
        have a4 := alloc_in' (w2.alloc (.cells #[.string (bs x.id), .slice po x.ps.length pc] 45)) (.cells #[.string (bs x.id), .slice po x.ps.length pc] 45)
        have hownA := World.ownsRow.alloc hown (.cells #[.string (bs x.id), .slice po x.ps.length pc] 45)
        have b4 := (b3.trans (a4.mono b3.size)).grown hgrow (by have := b3.size; simp at this ⊢; omega) (fun k hk => (World.ownsRow.lt hownA k hk).1)
        rw [← hzl] at hown'
        have o4 := OwnE.grown (ys := [(x, ⟨po, pc⟩)]) hownA (fun q hq => ⟨(hzp q hq).1.below a4, (hzp q hq).2.below a4⟩) (fun q hq => by simp at hq; subst hq; exact ⟨hrp3.below a4, .inr (hpv3.below a4)⟩) (by decide) hgrow hown'
        rw [hz1] at o4
        have HB4 := Lib.hid b4
        have HO4 := Lib.hid o4
        clear hown' hgrow hown hownA hzp b3 b4 o4 a4 hrp3 hpv3 hx3
        go_wp2
        go_roundg z.length
        case measure => have := HG.out; have := HZ.out; omega
        case rel => exact ⟨z, es ++ [x], rfl, HE.out, by have := HLN.out; have := HZ.out; simp; omega, rfl, HO4.out, HB4.out⟩
end Go.Proofs.YtkpcfbadhoiigaaDoor
