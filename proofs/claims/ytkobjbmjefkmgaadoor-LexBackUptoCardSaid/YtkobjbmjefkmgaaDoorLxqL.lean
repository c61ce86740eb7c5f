/- The program's Print, walked. -/
import Derived.Test.YtkobjbmjefkmgaaDoorLxqK
namespace Go.Proofs.YtkobjbmjefkmgaaDoor
open Go.ChangeShapes Go.WideShapes Go.ChangeAt Go.RowKit K L14
set_option linter.unusedVariables false

/-- The rounds. -/
def PqRel (l : List Tq) (w : World) (g : Nat) (v : Value) (wr : World) : Prop :=
  ∃ i : Nat, i + g = l.length ∧ v = .int .i64 (i : Nat) ∧ allT (bq (l.take i)) = true ∧ (file (bq (l.take i))).length ≤ i * 280000100 ∧ Bld w.heap.size w.heap.size (file (bq (l.take i))) wr ∧ Below w.heap.size w wr
theorem tokT : 33 ≠ 5 := by decide
theorem tokB {w : World} {q : Nat} {x : Tq} (h : w.heap[q]? = some (.cells #[.int .i64 x.k, .string (bs x.t), .int .i64 x.l] 33 (0, 0))) : w.cell? ⟨q, 0, none⟩ = some (.int .i64 x.k) ∧ w.cell? ⟨q, 1, none⟩ = some (.string (bs x.t)) ∧ w.cell? ⟨q, 2, none⟩ = some (.int .i64 x.l) := ⟨cellRow h 0, cellRow h 1, cellRow h 2⟩
theorem bld_row {w : World} {B b q : Nat} {l : List UInt8} (h : Bld B b l w) {cs : Array Value} (hq : w.heap[q]? = some (.cells cs 33 (0, 0))) : q ≠ b := by
  intro e
  subst e
  unfold Bld at h
  rcases h with ⟨_, v, hbk, _, _⟩ | ⟨_, v, hbk, _, _⟩
  · rw [hbk] at hq; injection hq with hq; injection hq with _ hq; revert hq; decide
  · rw [hbk] at hq; injection hq with hq; injection hq with _ hq; revert hq; decide
set_option maxRecDepth 100000 in
set_option maxHeartbeats 2000000 in
theorem lPrint_walk (l : List Tq) (hl : l.length ≤ 5000) (ht : ∀ i, i < l.length → (l.getD i noQ).t.length ≤ 70000000) (ao : Option Addr) (cap : Nat) (w : World) (T : LxI w) (h : RdQ w ao l) : Calls Tryd.prog 11 #[.slice ao l.length cap] w fun e w' => e = .returned (.tuple #[.string (bs (prS l)), .int .i64 (prE l : Nat)]) ∧ Below w.heap.size w w' := by
  have H0 := Lib.hid (show PqRel l w l.length (.int .i64 (0 : Nat)) (w.alloc (.cells #[.pointer none, .slice none 0 0] 58)) from ⟨0, by omega, rfl, rfl, by simp [bq, file], Bld.newL w, (Below.refl _ _).alloc (Nat.le_refl _) _⟩)
  have HRQ := Lib.hid h
  have HTX := Lib.hid ht
  have HT := Lib.hid (fun w1 (b : Below w.heap.size w w1) => LxI.below T b)
  clear h ht T
  go_enter Tryd.func11, Tryd.ntmps11
  go_wp2_with fail
  go_loopg [10] l.length (fun g v wr => PqRel l w g v wr)
  case atStart => exact H0.out
  case round =>
    obtain ⟨i, hig, rfl, hat, hfl, hB, hb⟩ := hrel
    clear H0
    have HB := Lib.hid hb
    have hBs := hb.size
    have HAT := Lib.hid hat
    have HBD := Lib.hid hB
    cases gk with
    | zero =>
      obtain rfl : i = l.length := by omega
      rw [List.take_length] at hat
      have HX := Lib.hid (show prS l = file (bq l) ∧ prE l = 0 by unfold prS prE; rw [hat]; exact ⟨rfl, rfl⟩)
      rw [List.take_length] at HBD
      have HS := Lib.hid (bstr _ _ _ _ HBD.out hBs)
      clear hat hfl hB hb
      go_wp2_with fail
      refine HS.out.mono ?_
      rintro e w2 ⟨rfl, b2⟩
      have HB2 := Lib.hid (HB.out.trans b2)
      clear b2
      go_wp2
      go_ret2
      rw [HX.out.1, HX.out.2]
      exact ⟨rfl, HB2.out⟩
    | succ g =>
      have hi : i < l.length := by omega
      have hi2 : ((i : Nat) : Int) < ((l.length : Nat) : Int) := by omega
      obtain ⟨q, o, rfl, hqs, c0, c1, c2⟩ := (HRQ.out.below hb).at hi
      have htl := HTX.out i hi
      have HBQ := Lib.hid (bq_at l i hi)
      have HNO := Lib.hid (bq_no l i hi)
      obtain ⟨x, hx⟩ : ∃ x, l.getD i noQ = x := ⟨_, rfl⟩
      rw [hx] at c0 c1 c2 htl HBQ HNO
      have hbw := (Below.refl wr.heap.size wr).alloc (Nat.le_refl _) (.cells #[.int .i64 x.k, .string (bs x.t), .int .i64 x.l] 33)
      have HBA := Lib.hid (hb.trans (hbw.mono hBs))
      have HBDA := Lib.hid (bld_below hB hbw)
      have HSP := Lib.hid (lspelled_walk x (by omega) (wr.alloc (.cells #[.int .i64 x.k, .string (bs x.t), .int .i64 x.l] 33)))
      have hR0 := Lib.hid (rowNew wr (.cells #[.int .i64 x.k, .string (bs x.t), .int .i64 x.l] 33))
      have hal : (wr.alloc (.cells #[.int .i64 x.k, .string (bs x.t), .int .i64 x.l] 33)).heap.size = wr.heap.size + 1 := by simp
      have HAL := Lib.hid hal
      have hspl := spQ_len x
      have HRD := Lib.hid (fun w1 T1 => lreads_walk (spQ x) (by omega) x w1 T1)
      rw [rd_is] at HRD
      clear hx hat hB hb hbw hal
      go_wp2_with fail
      refine HSP.out.mono ?_
      rintro e w2 ⟨rfl, b2⟩
      have HQ2 := Lib.hid ((b2.block wr.heap.size (by rw [HAL.out]; omega)).trans hR0.out)
      have HB2 := Lib.hid (HBA.out.trans (b2.mono (by rw [HAL.out]; omega)))
      have HD2 := Lib.hid (bld_below HBDA.out b2)
      have hs2 : w.heap.size ≤ w2.heap.size := HB2.out.size
      have hq2 := lt_of_block HQ2.out
      obtain ⟨p0, p1, p2⟩ := tokB HQ2.out
      clear b2 c0 c1 c2
      cases hT : isT (kN x.k) x.t with
      | false =>
        rw [hT] at HRD
        have HX := Lib.hid (HNO.out hT)
        clear hT
        go_wp2_with fail
        refine (HRD.out _ (HT.out _ HB2.out)).mono ?_
        rintro e w3 ⟨rfl, b3⟩
        have HB3 := Lib.hid (HB2.out.trans (b3.mono hs2))
        clear b3 p0 p1 p2
        go_wp2
        go_ret2
        rw [HX.out.1, HX.out.2]
        exact ⟨rfl, HB3.out⟩
      | true =>
        rw [hT] at HRD
        have HSQ := Lib.hid (spQ_put hT)
        have HG := Lib.hid (fun w1 => lgap_walk x hT w1)
        have hbh : (bhd (kN x.k) x.t).length = 1 := by rcases bhd_two (kN x.k) x.t with h | h <;> rw [h] <;> rfl
        have hiu : i * 280000100 ≤ 5000 * 280000100 := Nat.mul_le_mul_right _ (by omega)
        have HFN := Lib.hid (show file (bq (l.take (i + 1))) = file (bq (l.take i)) ++ spQ x ++ bhd (kN x.k) x.t by rw [HBQ.out, file_app, file_one, HSQ.out, List.append_assoc])
        have HAN := Lib.hid (show allT (bq (l.take (i + 1))) = true by rw [HBQ.out, allT_app, HAT.out]; simp [allT, hT])
        clear hT
        go_wp2_with fail
        refine (HRD.out _ (HT.out _ HB2.out)).mono ?_
        rintro e w3 ⟨rfl, b3⟩
        have HB3 := Lib.hid (HB2.out.trans (b3.mono hs2))
        have HD3 := Lib.hid (bld_below HD2.out b3)
        have HQ3 := Lib.hid ((b3.block wr.heap.size hq2).trans HQ2.out)
        have hs3 : w.heap.size ≤ w3.heap.size := HB3.out.size
        clear b3 p0 p1 p2
        go_wp2_with fail
        refine (wstr _ _ _ (spQ x) _ HD3.out (by omega) hs3).mono ?_
        rintro e w4 ⟨rfl, D4, b4, o4⟩
        have HB4 := Lib.hid (HB3.out.trans b4)
        have HD4 := Lib.hid D4
        have HQ4 := Lib.hid ((o4 _ _ _ _ HQ3.out tokT (bld_row HD3.out HQ3.out)).trans HQ3.out)
        have hs4 : w.heap.size ≤ w4.heap.size := HB4.out.size
        obtain ⟨p0, p1, p2⟩ := tokB HQ4.out
        clear D4 b4 o4
        go_wp2_with fail
        refine (HG.out _).mono ?_
        rintro e w5 ⟨rfl, b5⟩
        have HB5 := Lib.hid (HB4.out.trans (b5.mono hs4))
        have HD5 := Lib.hid (bld_below HD4.out b5)
        have hs5 : w.heap.size ≤ w5.heap.size := HB5.out.size
        clear b5 p0 p1 p2
        go_wp2_with fail
        refine (wstr _ _ _ (bhd (kN x.k) x.t) _ HD5.out (by rw [List.length_append]; omega) hs5).mono ?_
        rintro e w6 ⟨rfl, D6, b6, -⟩
        have HXX := Lib.hid (show PqRel l w g (.int .i64 ((i : Int) + 1)) w6 from ⟨i + 1, by omega, rfl, HAN.out, by rw [HFN.out, List.length_append, List.length_append]; omega, by rw [HFN.out]; exact D6, HB5.out.trans b6⟩)
        clear D6 b6
        go_wp2
        go_roundg g
        case measure => omega
        case rel => exact HXX.out
/-- The program's calls keep their word. -/
theorem lex_ok : LOk LxI where
  keepI := fun a b h k => h.below k
  split := fun s w hs hw => lsplit_walk s hs w hw
  print := fun l ao cap w hl ht hw hr => lPrint_walk l hl ht ao cap w hw hr
  quote := fun s w hs hw => lQuote_walk s (by omega) w
end Go.Proofs.YtkobjbmjefkmgaaDoor
