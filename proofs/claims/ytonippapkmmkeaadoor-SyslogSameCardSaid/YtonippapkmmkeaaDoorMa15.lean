/- Texts on the program and on the document, joined: QuqE, QuoE, QuoF, QuoG, QuoH. -/
import Derived.Test.YtonippapkmmkeaaDoorMa11
import Derived.Test.YtonippapkmmkeaaDoorMa14
import Derived.Test.YtonippapkmmkeaaDoorMa07
/- The program's mayBe, walked. -/
namespace Go.Proofs.YtonippapkmmkeaaDoor
open Go.ChangeShapes Go.WideShapes Go.ChangeAt Go.RowKit K Q10 U4
set_option linter.unusedVariables false

/-- None of an element's texts is too long for any memory. -/
def BnE (x : El) : Prop := x.id.length ≤ 140737488355327 ∧ x.ps.length ≤ 140737488351232 ∧ ∀ p ∈ x.ps, p.n.length ≤ 140737488351232 ∧ p.v.length ≤ 140737488351232
def MbRel (x : El) (w : World) (g : Nat) (v : Value) (wr : World) : Prop :=
  ∃ i, i + g = x.ps.length ∧ (x.ps.take i).all pmOk = true ∧ v = .int .i64 (i : Nat) ∧ Below w.heap.size w wr
set_option maxRecDepth 100000 in
set_option maxHeartbeats 2000000 in
theorem qmaybe_walk (x : El) (po : Option Addr) (pc : Nat) (hl : BnE x) (w : World) (ht : Leads w) (hr : RdP w po x.ps) :
    Calls Tryd.prog 37 #[.agg #[.string (bs x.id), .slice po x.ps.length pc]] w fun e w' => e = .returned (.bool (elOk x)) ∧ Below w.heap.size w w' := by
  obtain ⟨hl1, hl2, hl3⟩ := hl
  have HI := Lib.hid (fun w1 => isname_walk x.id hl1 w1)
  have hx0 := Eb.new 30 w x.id (.slice po x.ps.length pc)
  have b0 := alloc_in' w (.cells #[.string (bs x.id), .slice po x.ps.length pc] 30)
  obtain ⟨w0, hw0⟩ : ∃ w0, w.alloc (.cells #[.string (bs x.id), .slice po x.ps.length pc] 30) = w0 := ⟨_, rfl⟩
  rw [hw0] at hx0 b0
  have HW0 := Lib.hid hw0
  have HR := Lib.hid (fun w1 (b : Below w.heap.size w w1) => hr.below b)
  have HLE := Lib.hid (fun w1 (b : Below w.heap.size w w1) => ht.below b)
  have HL3 := Lib.hid hl3
  obtain ⟨x0, x1⟩ := hx0.cells
  clear hw0 hr hl3 ht
  cases hi : isN x.id
  · rw [hi] at HI
    have HN := Lib.hid (show elOk x = false by unfold elOk; rw [hi]; rfl)
    clear hi
    go_enter Tryd.func37, Tryd.ntmps37
    go_wp2_with fail
    rw [HW0.out]
    go_wp2_with fail
    refine (HI.out _).mono ?_
    rintro e w1 ⟨rfl, rfl⟩
    go_wp2
    go_ret
    rw [HN.out]
    exact ⟨rfl, b0⟩
  rw [hi] at HI
  by_cases h4 : x.ps.length ≤ 4096
  rotate_left
  · have HN := Lib.hid (show elOk x = false by unfold elOk; simp [h4])
    have h5 : (4096 : Int) < (x.ps.length : Nat) := by omega
    clear hi h4
    go_enter Tryd.func37, Tryd.ntmps37
    go_wp2_with fail
    rw [HW0.out]
    go_wp2_with fail
    refine (HI.out _).mono ?_
    rintro e w1 ⟨rfl, rfl⟩
    go_wp2
    go_ret
    rw [HN.out]
    exact ⟨rfl, b0⟩
  have HY := Lib.hid (fun h => elOk_yes hi h4 h)
  have h5 : ¬ (4096 : Int) < (x.ps.length : Nat) := by omega
  clear hi
  go_enter Tryd.func37, Tryd.ntmps37
  go_wp2_with fail
  rw [HW0.out]
  go_wp2_with fail
  refine (HI.out _).mono ?_
  rintro e w1 ⟨rfl, rfl⟩
  go_wp2_with fail
  clear x0 x1
  go_loopg [18] x.ps.length (fun g v wr => MbRel x w g v wr)
  case atStart => exact ⟨0, by omega, rfl, rfl, b0⟩
  case round =>
    obtain ⟨i, hg, ha, rfl, hb⟩ := hrel
    have HB := Lib.hid hb
    clear hb hx0 b0
    cases gk with
    | zero =>
      have hp : x.ps.length ≤ i := by omega
      have HE := Lib.hid (HY.out (by rw [← show i = x.ps.length by omega]; exact ha))
      clear ha hg
      go_wp2
      go_ret
      rw [HE.out]
      exact ⟨rfl, HB.out⟩
    | succ g =>
      have hlt : i < x.ps.length := by omega
      have HA := Lib.hid (allP_step x.ps i hlt)
      have HAA := Lib.hid ha
      have HN := Lib.hid (fun h => elOk_no (x := x) hlt h)
      obtain ⟨c, off, rfl, hc, hcc⟩ := (HR.out _ HB.out).at (by omega)
      obtain ⟨p0, p1⟩ := hcc i hlt
      obtain ⟨q1, q2⟩ := HL3.out _ (getD_mem (d := nop) hlt)
      have HI2 := Lib.hid (fun w1 => isname_walk (x.ps.getD i nop).n (by omega) w1)
      have HC2 := Lib.hid (fun w1 h => check_walk (x.ps.getD i nop).v q2 w1 h)
      have HOK := Lib.hid (show pmOk (x.ps.getD i nop) = (isN (x.ps.getD i nop).n && (chE (x.ps.getD i nop).v == 0)) from rfl)
      clear hcc ha
      generalize x.ps.getD i nop = P at *
      have hP0 := rowNew wr (.cells #[.string (bs P.n), .string (bs P.v)] 56)
      have hba := HB.out.trans ((alloc_in' wr (.cells #[.string (bs P.n), .string (bs P.v)] 56)).mono HB.out.size)
      have HTr := Lib.hid (HLE.out _ hba)
      have HBA := Lib.hid hba
      clear hba
      cases hn : isN P.n
      · have HE := Lib.hid (HN.out (by rw [HOK.out, hn]; rfl))
        rw [hn] at HI2
        clear hn
        go_wp2_with fail
        refine (HI2.out _).mono ?_
        rintro e w2 ⟨rfl, rfl⟩
        go_wp2
        go_ret
        rw [HE.out]
        exact ⟨rfl, HBA.out⟩
      rw [hn] at HI2
      rcases chE_two P.v with hv | hv
      rotate_left
      · have HE := Lib.hid (HN.out (by rw [HOK.out, hn, hv]; rfl))
        rw [hv] at HC2
        clear hn hv
        go_wp2_with fail
        refine (HI2.out _).mono ?_
        rintro e w2 ⟨rfl, rfl⟩
        go_wp2_with fail
        refine (HC2.out _ HTr.out).mono ?_
        rintro e w3 ⟨rfl, d3⟩
        have b3 : Below w.heap.size w w3 := by obtain ⟨n3, rfl⟩ := d3; exact ⟨HBA.out.os, HBA.out.tape, HBA.out.output, HBA.out.size, HBA.out.block⟩
        clear d3
        go_wp2
        go_ret
        rw [HE.out]
        exact ⟨rfl, b3⟩
      · have HS := Lib.hid (show (x.ps.take (i + 1)).all pmOk = true by rw [HA.out, HAA.out, HOK.out, hn, hv]; rfl)
        rw [hv] at HC2
        clear hn hv
        go_wp2_with fail
        refine (HI2.out _).mono ?_
        rintro e w2 ⟨rfl, rfl⟩
        go_wp2_with fail
        refine (HC2.out _ HTr.out).mono ?_
        rintro e w3 ⟨rfl, d3⟩
        have b3 : Below w.heap.size w w3 := by obtain ⟨n3, rfl⟩ := d3; exact ⟨HBA.out.os, HBA.out.tape, HBA.out.output, HBA.out.size, HBA.out.block⟩
        have HB3 := Lib.hid b3
        clear b3 d3
        go_wp2
        go_roundg g
        case measure => omega
        case rel => exact ⟨i + 1, by omega, HS.out, by simp, HB3.out⟩
end Go.Proofs.YtonippapkmmkeaaDoor
/- The document's Check of structured data, walked. -/
namespace Go.Proofs.YtonippapkmmkeaaDoor
open Go.ChangeShapes Go.WideShapes Go.ChangeAt Go.RowKit K Q10 U4
set_option linter.unusedVariables false

theorem uniq_nodup : ∀ xs : List (List UInt8), uniq xs = true ↔ xs.Nodup
  | [] => by simp [uniq]
  | a :: r => by
    rw [List.nodup_cons, ← uniq_nodup r]
    simp [uniq]
theorem ids_getD (l : List El) (i : Nat) (h : i < l.length) : (l.map El.id)[i]'(by simpa using h) = (l.getD i noe).id := by
  simp [List.getD, List.getElem?_eq_getElem h]
theorem uniq_iff (l : List El) : uniq (l.map El.id) = true ↔ ∀ k i, k < i → i < l.length → (l.getD k noe).id ≠ (l.getD i noe).id := by
  rw [uniq_nodup, List.Nodup, List.pairwise_iff_getElem]
  constructor
  · intro h k i hk hi
    have := h k i (by simp; omega) (by simpa using hi) hk
    rw [ids_getD l k (by omega), ids_getD l i hi] at this
    exact this
  · intro h k i h1 h2 hk
    have hi : i < l.length := by simpa using h2
    rw [ids_getD l k (by omega), ids_getD l i hi]
    exact h k i hk hi
theorem okL_yes {l : List El} (h1 : l.length ≤ 4096) (h2 : ∀ i, i < l.length → elOk (l.getD i noe) = true) (h3 : ∀ k i, k < i → i < l.length → (l.getD k noe).id ≠ (l.getD i noe).id) : okL l = true := by
  have ha : l.all elOk = true := List.all_eq_true.2 fun x hx => by
    obtain ⟨i, hi, e⟩ := List.mem_iff_getElem.1 hx
    have := h2 i hi
    rw [List.getD_eq_getElem?_getD, List.getElem?_eq_getElem hi] at this
    rw [← e]; exact this
  unfold okL
  rw [ha, (uniq_iff l).2 h3]; simp [h1]
theorem okL_el {l : List El} {i : Nat} (hi : i < l.length) (h : elOk (l.getD i noe) = false) : okL l = false := by
  cases hk : okL l
  · rfl
  · have := okL_all hk _ (getD_mem (d := noe) hi)
    rw [h] at this; cases this
theorem okL_eq {l : List El} {k i : Nat} (hk : k < i) (hi : i < l.length) (h : (l.getD k noe).id = (l.getD i noe).id) : okL l = false := by
  cases ho : okL l
  · rfl
  · unfold okL at ho
    simp only [Bool.and_eq_true] at ho
    exact absurd h ((uniq_iff l).1 ho.2.2 k i hk hi)
theorem okL_long {l : List El} (h : ¬ l.length ≤ 4096) : okL l = false := by unfold okL; simp [h]
theorem bdr {B : Nat} {w w' : World} (h : Below B w w') (n : Nat) : Below B w (w'.drewN n) := ⟨h.os, h.tape, h.output, h.size, h.block⟩
/-- Data whose texts are short, or that are too many. -/
def LimL (l : List El) : Prop := l.length ≤ 4096 → ∀ x ∈ l, LimE x
def CkRel (l : List El) (w : World) (g : Nat) (v3 : Value) (wr : World) : Prop :=
  ∃ i, i + g = l.length ∧ (∀ j, j < i → elOk (l.getD j noe) = true) ∧ (∀ k j, k < j → j < i → (l.getD k noe).id ≠ (l.getD j noe).id) ∧ v3 = .int .i64 (i : Nat) ∧ Below w.heap.size w wr
def CiRel (l : List El) (w : World) (i : Nat) (g : Nat) (v4 : Value) (wr : World) : Prop :=
  ∃ k, k + g = i ∧ (∀ j, j < k → (l.getD j noe).id ≠ (l.getD i noe).id) ∧ v4 = .int .i64 (k : Nat) ∧ Below w.heap.size w wr
theorem ckE_no {l : List El} (h : okL l = false) : ckE l = 100 := by unfold ckE; rw [h]; rfl
theorem ckE_yes {l : List El} (h : okL l = true) : ckE l = 0 := by unfold ckE; rw [h]; rfl
end Go.Proofs.YtonippapkmmkeaaDoor
/- The document's Put and Print of structured data, walked. -/
namespace Go.Proofs.YtonippapkmmkeaaDoor
open Go.ChangeShapes Go.WideShapes Go.ChangeAt Go.RowKit K Q10 U4
set_option linter.unusedVariables false

theorem elsT_step (l : List El) (i : Nat) (h : i < l.length) : elsT (l.take (i + 1)) = elsT (l.take i) ++ elT (l.getD i noe) := by
  rw [takeD l i noe h, elsT_app]; simp [elsT]
theorem psT_step (l : List Pm) (i : Nat) (h : i < l.length) : psT (l.take (i + 1)) = psT (l.take i) ++ pmT (l.getD i nop) := by
  rw [takeD l i nop h, psT_app]; simp [psT]
theorem elsT_pre (l : List El) (i : Nat) : (elsT (l.take i)).length ≤ (elsT l).length := by
  have := congrArg List.length (elsT_app (l.take i) (l.drop i))
  rw [List.take_append_drop, List.length_append] at this
  omega
theorem psT_pre (l : List Pm) (i : Nat) : (psT (l.take i)).length ≤ (psT l).length := by
  have := congrArg List.length (psT_app (l.take i) (l.drop i))
  rw [List.take_append_drop, List.length_append] at this
  omega
theorem quiet_drq {P : Program} {f : FuncId} {args : Array Value} {w : World} {n : Nat} {v : Value}
    (h : Calls P f args (w.drewN n) fun e w' => e = .returned v ∧ Dr (w.drewN n) w') : Calls P f args (w.drewN n) fun e w'' => e = .returned v ∧ ∃ m, w'' = w.drewN m :=
  h.mono fun _ _ ⟨he, k, hk⟩ => ⟨he, n + k, by rw [hk]; unfold World.drewN; simp [Nat.add_assoc]⟩
def PuRel (l : List El) (w : World) (g : Nat) (v3 v4 : Value) (wr : World) : Prop :=
  ∃ i, i + g = l.length ∧ v3 = .string (bs (elsT (l.take i))) ∧ v4 = .int .i64 (i : Nat) ∧ Dr w wr
def PvRel (S : List UInt8) (x : El) (w : World) (g : Nat) (v3 v5 : Value) (wr : World) : Prop :=
  ∃ k, k + g = x.ps.length ∧ v3 = .string (bs (S ++ psT (x.ps.take k))) ∧ v5 = .int .i64 (k : Nat) ∧ Dr w wr
theorem RdP.dr {w w' : World} {ao : Option Addr} {xs : List Pm} (h : RdP w ao xs) (d : Dr w w') : RdP w' ao xs := by
  obtain ⟨m, rfl⟩ := d; exact h
theorem RdE.dr {w w' : World} {ao : Option Addr} {xs : List El} (h : RdE w ao xs) (d : Dr w w') : RdE w' ao xs := by
  obtain ⟨m, rfl⟩ := d; exact h
theorem put_okL {l : List El} (h : okL l = true) : l.length ≤ 4096 := by
  unfold okL at h
  simp only [Bool.and_eq_true, decide_eq_true_eq] at h
  exact h.1
end Go.Proofs.YtonippapkmmkeaaDoor
/- The document's Parse of structured data, walked. -/
namespace Go.Proofs.YtonippapkmmkeaaDoor
open Go.ChangeShapes Go.WideShapes Go.ChangeAt Go.RowKit K Q10 U4
set_option linter.unusedVariables false

/-- None of an element's texts is longer than n, and it has no more params. -/
def Sml (n : Nat) (x : El) : Prop := x.id.length ≤ n ∧ x.ps.length ≤ n ∧ ∀ p ∈ x.ps, p.n.length ≤ n ∧ p.v.length ≤ n
theorem Sml.mono {n m : Nat} {x : El} (h : Sml n x) (k : n ≤ m) : Sml m x := ⟨by have := h.1; omega, by have := h.2.1; omega, fun p hp => by have := h.2.2 p hp; omega⟩
theorem prs_small : ∀ (n : Nat) (s : List UInt8), s.length ≤ n → ∀ l r, prsL s = some (l, r) → ∀ p ∈ l, p.n.length ≤ s.length ∧ p.v.length ≤ s.length
  | n, s, hn, l, r, h => by
    by_cases hs : ∃ t, s = 32 :: t
    · obtain ⟨t, rfl⟩ := hs
      cases n with
      | zero => simp at hn
      | succ n =>
        cases hp : pm1 t with
        | none => rw [prsL_none hp] at h; cases h
        | some x =>
          obtain ⟨p, q⟩ := x
          rw [prsL_step hp] at h
          obtain ⟨y, hy, he⟩ := Option.map_eq_some_iff.1 h
          simp only [Prod.mk.injEq] at he
          obtain ⟨rfl, rfl⟩ := he
          obtain ⟨h1, u, hu⟩ := pm1_len hp
          simp only [List.length_cons] at hn ⊢
          have ih := prs_small n q (by omega) y.1 y.2 hy
          intro p' hp'
          rcases List.mem_cons.1 hp' with rfl | hm
          · omega
          · have := ih p' hm; omega
    · rw [prsL_stop (fun t e => hs ⟨t, e⟩)] at h
      simp only [Option.some.injEq, Prod.mk.injEq] at h
      obtain ⟨rfl, rfl⟩ := h
      intro p hp; cases hp
theorem one_small {s : List UInt8} {x : El} {z : List UInt8} (h : one s = some (x, z)) : Sml s.length x := by
  obtain ⟨h1, h2⟩ := (one_iff s x z).1 h
  have h3 := prs_small _ _ (Nat.le_refl _) _ _ h2
  obtain ⟨_, h4, _⟩ := prs_len _ _ (Nat.le_refl _) _ _ h2
  have hl := congrArg List.length (nm_split s)
  simp only [List.length_append] at hl
  refine ⟨by rw [h1]; omega, by omega, fun p hp => ?_⟩
  have := h3 p hp; omega
theorem els_small : ∀ (n : Nat) (s : List UInt8), s.length ≤ n → ∀ l r, elsL s = some (l, r) → ∀ x ∈ l, Sml s.length x
  | n, s, hn, l, r, h => by
    by_cases hs : ∃ t, s = 91 :: t
    · obtain ⟨t, rfl⟩ := hs
      cases n with
      | zero => simp at hn
      | succ n =>
        cases hp : one t with
        | none => rw [elsL_none hp] at h; cases h
        | some x =>
          obtain ⟨x, q⟩ := x
          rw [elsL_step hp] at h
          obtain ⟨y, hy, he⟩ := Option.map_eq_some_iff.1 h
          simp only [Prod.mk.injEq] at he
          obtain ⟨rfl, rfl⟩ := he
          have h1 := (one_len hp).2.1
          simp only [List.length_cons] at hn ⊢
          have ih := els_small n q (by omega) y.1 y.2 hy
          intro x' hx'
          rcases List.mem_cons.1 hx' with rfl | hm
          · exact (one_small hp).mono (by omega)
          · exact (ih x' hm).mono (by omega)
    · rw [elsL_stop (fun t e => hs ⟨t, e⟩)] at h
      simp only [Option.some.injEq, Prod.mk.injEq] at h
      obtain ⟨rfl, rfl⟩ := h
      intro x hx; cases hx
theorem Sml.lim {n : Nat} {x : El} (h : Sml n x) (hn : n ≤ 10000) : LimE x := ⟨by have := h.1; omega, by have := h.2.1; omega, fun p hp => by have := h.2.2 p hp; omega⟩
/-- What Parse hands back. -/
def PaPost10 (l : List UInt8) (w : World) (e : Ending) (w' : World) : Prop :=
  (pa l = none ∧ e = .returned (.tuple #[.slice none 0 0, .string (bs []), .int .i64 100]) ∧ Below w.heap.size w w') ∨
  ∃ es r v, pa l = some (es, r) ∧ e = .returned (.tuple #[v, .string (bs r), .int .i64 0]) ∧ OwnE w' w.heap.size 30 56 v es ∧ Below w.heap.size w w'
def econs (es : List El) : Option (List El × List UInt8) → Option (List El × List UInt8)
  | some (q, r) => some (es ++ q, r)
  | none => none
theorem econs_nil (x : Option (List El × List UInt8)) : econs [] x = x := by rcases x with _ | ⟨o, r⟩ <;> rfl
theorem econs_map (es : List El) (p : El) (x : Option (List El × List UInt8)) : econs es (x.map fun y => (p :: y.1, y.2)) = econs (es ++ [p]) x := by
  rcases x with _ | ⟨o, r⟩
  · rfl
  · simp [econs]
theorem pa_what {l : List UInt8} (h : ∀ r, l ≠ 45 :: r) : (elsL l = none → pa l = none) ∧ ∀ es r, elsL l = some (es, r) → pa l = if !es.isEmpty && okL es then some (es, r) else none := by
  cases l with
  | nil =>
    refine ⟨fun _ => rfl, fun es r he => ?_⟩
    rw [elsL_stop (by simp)] at he
    simp only [Option.some.injEq, Prod.mk.injEq] at he
    obtain ⟨rfl, rfl⟩ := he
    rfl
  | cons b t =>
    have hb : b ≠ 45 := fun e => h t (by rw [e])
    refine ⟨fun he => ?_, fun es r he => ?_⟩
    · simp only [pa, if_neg hb, he]
    · simp only [pa, if_neg hb, he]
/-- What stands where an element may begin. -/
inductive EoAt (r : List UInt8) : Prop
  | stop (hs : elsL r = some ([], r)) (hnb : r = [] ∨ (r.isEmpty = false ∧ 0 < r.length ∧ byt r 0 ≠ 91))
  | bad (h0 : byt r 0 = 91) (hne : r.isEmpty = false) (hpos : 0 < r.length) (h : one r.tail = none) (e : elsL r = none)
  | go (h0 : byt r 0 = 91) (hne : r.isEmpty = false) (hpos : 0 < r.length) (x : El) (z : List UInt8) (h : one r.tail = some (x, z)) (e : elsL r = (elsL z).map fun y => (x :: y.1, y.2)) (hz : z.length + 2 ≤ r.length)
theorem eo_all (r : List UInt8) : EoAt r := by
  cases r with
  | nil => exact .stop (elsL_stop (by simp)) (.inl rfl)
  | cons b t =>
    by_cases hb : b = 91
    rotate_left
    · exact .stop (elsL_stop (fun t e => by injection e with e _; exact hb e)) (.inr ⟨rfl, by simp, fun e => hb (UInt8.toNat_inj.1 e)⟩)
    subst hb
    cases h : one t with
    | none => exact .bad rfl rfl (by simp) h (elsL_none h)
    | some x =>
      obtain ⟨x, z⟩ := x
      have := (one_len h).2.1
      exact .go rfl rfl (by simp) x z h (elsL_step h) (by simp only [List.length_cons]; omega)
theorem info_el : (Tryd.prog.info? 30).map (fun i => (i.zero, i.size, i.bytes)) = some (some (.agg #[.string .empty, .slice none 0 0]), 2, 40) := by kernel_rfl
def PgRel (l : List UInt8) (w : World) (g : Nat) (v0 v5 : Value) (wr : World) : Prop :=
  ∃ r es, r.length = g ∧ elsL l = econs es (elsL r) ∧ es.length + r.length ≤ l.length ∧ v0 = .string (bs r) ∧ OwnE wr w.heap.size 30 56 v5 es ∧ Below w.heap.size w wr
end Go.Proofs.YtonippapkmmkeaaDoor
/- The document's Get of structured data, walked. -/
namespace Go.Proofs.YtonippapkmmkeaaDoor
open Go.ChangeShapes Go.WideShapes Go.ChangeAt Go.RowKit K Q10 U4
set_option linter.unusedVariables false

def gtS (l : List El) (id n : List UInt8) : List UInt8 := (gt l id n).getD []
def gtB (l : List El) (id n : List UInt8) : Bool := (gt l id n).isSome
theorem dropD {α : Type} (l : List α) (i : Nat) (d : α) (h : i < l.length) : l.drop i = l.getD i d :: l.drop (i + 1) := by
  rw [List.drop_eq_getElem_cons h]; simp [List.getD, List.getElem?_eq_getElem h]
theorem gt_next {l : List El} {i : Nat} {id n : List UInt8} (h : i < l.length) (hn : (l.getD i noe).id ≠ id) : gt (l.drop i) id n = gt (l.drop (i + 1)) id n := by
  rw [dropD l i noe h]; exact gt_front hn
theorem gt_here {l : List El} {i : Nat} {id n : List UInt8} (h : i < l.length) (hn : (l.getD i noe).id = id) : gt (l.drop i) id n = gtP (l.getD i noe).ps n := by
  rw [dropD l i noe h]
  unfold gt
  rw [List.find?_cons, beq_iff_eq.2 hn]
  rfl
theorem gtP_next {l : List Pm} {i : Nat} {n : List UInt8} (h : i < l.length) (hn : (l.getD i nop).n ≠ n) : gtP (l.drop i) n = gtP (l.drop (i + 1)) n := by
  rw [dropD l i nop h]
  unfold gtP
  rw [List.find?_cons, beq_eq_false_iff_ne.2 hn]
theorem gtP_here {l : List Pm} {i : Nat} {n : List UInt8} (h : i < l.length) (hn : (l.getD i nop).n = n) : gtP (l.drop i) n = some (l.getD i nop).v := by
  rw [dropD l i nop h]
  unfold gtP
  rw [List.find?_cons, beq_iff_eq.2 hn]
  rfl
def GtRel (l : List El) (id n : List UInt8) (w : World) (g : Nat) (v5 : Value) (wr : World) : Prop :=
  ∃ i, i + g = l.length ∧ gt l id n = gt (l.drop i) id n ∧ v5 = .int .i64 (i : Nat) ∧ Dr w wr
def GpRel (x : El) (n : List UInt8) (w : World) (g : Nat) (v6 : Value) (wr : World) : Prop :=
  ∃ k, k + g = x.ps.length ∧ gtP x.ps n = gtP (x.ps.drop k) n ∧ v6 = .int .i64 (k : Nat) ∧ Dr w wr
end Go.Proofs.YtonippapkmmkeaaDoor
