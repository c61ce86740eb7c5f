/- FrameFeeds, walked on calls that keep their word. -/
import Derived.Test.YtndinelljmjfaaaDoorFrmH
import Derived.Deep.DeepCutAuto
namespace Go.Proofs.YtndinelljmjfaaaDoor
open Go.ChangeShapes Go.WideShapes Go.ChangeAt Go.RowKit K F12
set_option linter.unusedVariables false

/-- A chunk, and whether the framer is forked ahead of it. -/
structure Tn where
  c : List UInt8
  f : Bool
def notn : Tn := ⟨[], false⟩
/-- A slice that reads as these turns. -/
def RdT (w : World) (ao : Option Addr) (xs : List Tn) : Prop :=
  xs.length = 0 ∨ ∃ b off, ao = some ⟨b, off, none⟩ ∧ b < w.heap.size ∧ ∀ i, i < xs.length → w.cell? ⟨b, off + i * 2, none⟩ = some (.string (bs (xs.getD i notn).c)) ∧ w.cell? ⟨b, off + i * 2 + 1, none⟩ = some (.bool (xs.getD i notn).f)
theorem RdT.below {w w' : World} {ao : Option Addr} {xs : List Tn} (h : RdT w ao xs) (k : Below w.heap.size w w') : RdT w' ao xs := by
  rcases h with h0 | ⟨b, off, ha, hb, hc⟩
  · exact .inl h0
  · refine .inr ⟨b, off, ha, Nat.lt_of_lt_of_le hb k.size, fun i hi => ?_⟩
    obtain ⟨c0, c1⟩ := hc i hi
    exact ⟨(k.cell (p := ⟨b, off + i * 2, none⟩) hb).trans c0, (k.cell (p := ⟨b, off + i * 2 + 1, none⟩) hb).trans c1⟩
theorem fedpre {st : Fs} {i : Nat} (h : st.s = none ∨ st.hold.length ≤ 500 * i) (hi : i ≤ 40) (n : Nat) (hn : n ≤ 500) : st.s = none ∨ st.hold.length + n ≤ 1000000 := by
  rcases h with h | h
  · exact .inl h
  · exact .inr (by omega)
theorem nxt_pre {st : Fs} {i : Nat} (h : st.s = none ∨ st.hold.length ≤ 500 * i) (c : List UInt8) (hc : c.length ≤ 500) : (st.nxt c).s = none ∨ (st.nxt c).hold.length ≤ 500 * (i + 1) := by
  rcases h with h | h
  · refine .inl ?_
    unfold Fs.nxt; rw [h]
  · have := (msg_len st c).2.1
    exact .inr (by omega)
theorem nxt_dr {st : Fs} {i : Nat} (h : st.dr ≤ i) (c : List UInt8) : (st.nxt c).dr ≤ i + 1 := by
  unfold Fs.nxt
  split <;> simp <;> omega
theorem msg_pre {st : Fs} {i : Nat} (h : st.s = none ∨ st.hold.length ≤ 500 * i) (hi : i ≤ 40) (c : List UInt8) (hc : c.length ≤ 500) : (st.msg c).length ≤ 1000000 := by
  rcases h with h | h
  · unfold Fs.msg; rw [h]; simp
  · have := (msg_len st c).1; omega
def oth9 : List UInt8 := [57, 32, 111, 116, 104, 101, 114]
def FfRel (FR : World → Nat → List Nat → Fs → Prop) (n rb m : Nat) (w : World) (g : Nat) (v7 v15 : Value) (wr : World) : Prop :=
  ∃ (i b : Nat) (S : List Nat) (st : Fs), i + g = n ∧ i ≤ 40 ∧ v15 = .int .i64 (i : Nat) ∧ v7 = .pointer (some ⟨b, 0, none⟩) ∧ FR wr b S st ∧ QR wr rb st ∧ (∀ x ∈ S, w.heap.size ≤ x) ∧ rb ∉ S ∧ st.most = m ∧ st.dr ≤ i ∧ (st.s = none ∨ st.hold.length ≤ 500 * i) ∧ Below w.heap.size w wr
theorem blk_not {w3 : World} {B n cap : Nat} {ao : Option Addr} {ls : List (List UInt8)} (h : OwnS w3 B 9 (.slice ao n cap) ls) {k : Nat} (hk : k < B) : k ∉ blkS ao n := by
  unfold blkS
  split
  · simp
  · rcases h.2 with ⟨hv, h0⟩ | ⟨g, cap', cur, hv, hB, _⟩
    · injection hv with h1 _ _
      rw [h1]; simp
    · injection hv with h1 _ _
      rw [h1]
      simp
      omega
set_option maxRecDepth 100000 in
set_option maxHeartbeats 4000000 in
theorem frameFeeds_walk (I : World → Prop) (FR : World → Nat → List Nat → Fs → Prop) (F : FOkF I FR) (most : Int) (xs : List Tn) (ao : Option Addr) (cap : Nat) (hn : xs.length ≤ 140737488351232) (hxl : ∀ x ∈ xs, x.c.length ≤ 140737488351232) (msg : List UInt8) (hmsg : msg.length ≤ 140737488351232) (w : World) (hw : I w) (hr : RdT w ao xs) :
    Calls Tryd.prog 3 #[.int .i64 most, .slice ao xs.length cap, .string (bs msg)] w fun e w' => e = .returned (.bool true) ∧ Below w.heap.size w w' := by
  have HF := Lib.hid F
  have HI := Lib.hid (fun wx (b : Below w.heap.size w wx) => F.keepI w wx hw b)
  have HR := Lib.hid (fun wx (b : Below w.heap.size w wx) => hr.below b)
  have HXL := Lib.hid hxl
  by_cases hv : 1 ≤ most ∧ most ≤ 65535
  rotate_left
  · have hbad : most < 1 ∨ 65535 < most := by omega
    have HN := Lib.hid (F.new_no most w hbad hw)
    have HQ := Lib.hid (fun wx => qnew_no most hbad wx)
    clear hv hbad F hw hr hxl
    go_enter Tryd.func3, Tryd.ntmps3
    go_wp2_with fail
    refine HN.out.mono ?_
    rintro e w1 ⟨rfl, b1⟩
    go_wp2_with fail
    refine (HQ.out _).mono ?_
    rintro e w2 ⟨rfl, rfl⟩
    by_cases hml : msg.length ≤ 70000
    · have e1 : ((msg.length : Nat) : Int) ≤ 70000 := by omega
      have HA := Lib.hid (fun wx (b : Below w.heap.size w wx) => HF.out.frame msg wx (by omega) (HI.out wx b))
      have HB := Lib.hid (fun wx => qframe_walk msg (by omega) wx)
      clear hml
      generalize frS msg = fs at *
      generalize frE msg = fe at *
      go_wp2_with fail
      refine (HA.out _ b1).mono ?_
      rintro e w3 ⟨rfl, d3⟩
      have b3 := b1.trans (d3.mono b1.size)
      go_wp2_with fail
      refine (HB.out _).mono ?_
      rintro e w4 ⟨rfl, d4⟩
      have b4 := b3.trans (d4.mono b3.size)
      go_wp2_with fail
      refine (works12_walk I FR HF.out.toFOk w4 (HI.out _ b4)).mono ?_
      rintro e w5 ⟨rfl, d5⟩
      have b5 := b4.trans (d5.mono b4.size)
      go_wp2_with fail
      refine wp_loop_rounds 1 ?_
      rw [rounds_succ]
      go_wp2
      go_ret
      exact ⟨rfl, b5⟩
    · have e1 : ¬ ((msg.length : Nat) : Int) ≤ 70000 := by omega
      clear hml
      go_wp2_with fail
      refine (works12_walk I FR HF.out.toFOk w1 (HI.out _ b1)).mono ?_
      rintro e w5 ⟨rfl, d5⟩
      have b5 := b1.trans (d5.mono b1.size)
      go_wp2_with fail
      refine wp_loop_rounds 1 ?_
      rw [rounds_succ]
      go_wp2
      go_ret
      exact ⟨rfl, b5⟩
  obtain ⟨m, hm⟩ : ∃ m : Nat, most = ((m : Nat) : Int) := ⟨most.toNat, by omega⟩
  subst hm
  have hm1 : 1 ≤ m := by omega
  have hm2 : m ≤ 65535 := by omega
  have HN := Lib.hid (F.new_ok m w hm1 hm2 hw)
  have HQ := Lib.hid (fun wx => qnew_walk m hm1 hm2 wx)
  clear hv F hw hr hxl
  go_enter Tryd.func3, Tryd.ntmps3
  go_wp2_with fail
  refine HN.out.mono ?_
  rintro e w1 ⟨b, S, rfl, h1, hS, b1⟩
  go_wp2_with fail
  refine (HQ.out _).mono ?_
  rintro e w2 ⟨rfl, q2, d2⟩
  have hrbw : w.heap.size ≤ w1.heap.size := b1.size
  have hrbS : w1.heap.size ∉ S := fun hm => by have := HF.out.lt h1 _ hm; omega
  have h2 := HF.out.below h1 d2
  have b2 := b1.trans (d2.mono b1.size)
  clear d2 h1 b1
  generalize w1.heap.size = rb at *
  by_cases hml : msg.length ≤ 70000
  · have e1 : ((msg.length : Nat) : Int) ≤ 70000 := by omega
    have HA := Lib.hid (fun wx (b : Below w.heap.size w wx) => HF.out.frame msg wx (by omega) (HI.out wx b))
    have HB := Lib.hid (fun wx => qframe_walk msg (by omega) wx)
    clear hml
    generalize frS msg = fs at *
    generalize frE msg = fe at *
    go_wp2_with fail
    refine (HA.out _ b2).mono ?_
    rintro e w3 ⟨rfl, d3⟩
    have b3 := b2.trans (d3.mono b2.size)
    have h3 := HF.out.below h2 d3
    have q3 : QR w3 rb ⟨m, some [], 0⟩ := (d3.block rb (lt_of_block q2)).trans q2
    clear h2 q2 b2 d3
    go_wp2_with fail
    refine (HB.out _).mono ?_
    rintro e w4 ⟨rfl, d4⟩
    have b4 := b3.trans (d4.mono b3.size)
    have h4 := HF.out.below h3 d4
    have q4 : QR w4 rb ⟨m, some [], 0⟩ := (d4.block rb (lt_of_block q3)).trans q3
    clear h3 q3 b3 d4
    go_wp2_with fail
    refine (works12_walk I FR HF.out.toFOk w4 (HI.out _ b4)).mono ?_
    rintro e w5 ⟨rfl, d5⟩
    have b5 := b4.trans (d5.mono b4.size)
    have h5 := HF.out.below h4 d5
    have q5 : QR w5 rb ⟨m, some [], 0⟩ := (d5.block rb (lt_of_block q4)).trans q4
    clear h4 q4 b4 d5
    go_wp2_with fail
    go_loopg [7, 15] xs.length (fun g v7 v15 wr => FfRel FR xs.length rb m w g v7 v15 wr)
    case atStart => exact ⟨0, b, S, ⟨m, some [], 0⟩, by omega, by omega, rfl, rfl, h5, q5, hS, hrbS, rfl, by simp, .inr (by simp [Fs.hold]), b5⟩
    case round =>
      obtain ⟨i, fb, S1, st, hg, hi40, rfl, rfl, hfr, hqr, hS1, hrb1, hsm, hdr, hpre, hb⟩ := hrel
      have HFR := Lib.hid hfr
      have HQR := Lib.hid hqr
      have HSB := Lib.hid hS1
      have HRS := Lib.hid hrb1
      have HBC := Lib.hid hb
      clear hfr hqr hS1 hrb1 hb h5 q5 hS hrbS b5
      by_cases hex : i < xs.length ∧ i < 40
      rotate_left
      · by_cases hil : i < xs.length
        · have e2 : ((i : Nat) : Int) < ((xs.length : Nat) : Int) := by omega
          have e3 : ¬ ((i : Nat) : Int) < 40 := by omega
          clear hex hil
          go_wp2
          go_ret
          exact ⟨rfl, HBC.out⟩
        · have e2 : ¬ ((i : Nat) : Int) < ((xs.length : Nat) : Int) := by omega
          clear hex hil
          go_wp2
          go_ret
          exact ⟨rfl, HBC.out⟩
      obtain ⟨hil, hi4⟩ := hex
      obtain ⟨g, rfl⟩ : ∃ g, gk = g + 1 := ⟨gk - 1, by omega⟩
      have e2 : ((i : Nat) : Int) < ((xs.length : Nat) : Int) := by omega
      have e3 : ((i : Nat) : Int) < 40 := by omega
      obtain ⟨X, hX⟩ : ∃ X, xs.getD i notn = X := ⟨_, rfl⟩
      have hXl : X.c.length ≤ 140737488351232 := HXL.out X (by rw [← hX, List.getD_eq_getElem?_getD, List.getElem?_eq_getElem hil]; exact List.getElem_mem hil)
      have hat : ∀ wx, Below w.heap.size w wx → ∃ c off, ao = some ⟨c, off, none⟩ ∧ c < wx.heap.size ∧ wx.cell? ⟨c, off + i * 2, none⟩ = some (.string (bs X.c)) ∧ wx.cell? ⟨c, off + i * 2 + 1, none⟩ = some (.bool X.f) := by
        intro wx hb
        rcases HR.out wx hb with h | ⟨c, off, ha, hc, hcc⟩
        · omega
        · have := hcc i hil
          rw [hX] at this
          exact ⟨c, off, ha, hc, this⟩
      by_cases hx500 : 500 < X.c.length
      · have e4 : (500 : Int) < ((X.c.length : Nat) : Int) := by omega
        obtain ⟨c, off, hao, hbc, c0, c1⟩ := hat wr HBC.out
        subst hao
        clear hat hX hx500
        go_wp2
        go_roundg g
        case measure => omega
        case rel => exact ⟨i + 1, fb, S1, st, by omega, by omega, by simp, rfl, HFR.out, HQR.out, HSB.out, HRS.out, hsm, by omega, by rcases hpre with h | h; exact .inl h; exact .inr (by omega), HBC.out⟩
      have e4 : ¬ (500 : Int) < ((X.c.length : Nat) : Int) := by omega
      have hx500 : X.c.length ≤ 500 := by omega
      obtain ⟨c, off, hao, -⟩ := hat wr HBC.out
      subst hao
      have hat2 : ∀ wx, Below w.heap.size w wx → wx.cell? ⟨c, off + i * 2, none⟩ = some (.string (bs X.c)) ∧ wx.cell? ⟨c, off + i * 2 + 1, none⟩ = some (.bool X.f) := by
        intro wx hb
        obtain ⟨c', off', h, _, h2⟩ := hat wx hb
        injection h with h
        injection h with e1 e2
        subst e1 e2
        exact h2
      clear hat hX
      cases hf : X.f
      · have hfd := HF.out.feed wr fb S1 st X.c (HI.out _ HBC.out) HFR.out (fedpre hpre hi40 X.c.length hx500) (by omega) (by omega)
        unfold FdPost at hfd
        have HFD := Lib.hid hfd
        have HNP := Lib.hid (nxt_pre hpre X.c hx500)
        have HND := Lib.hid (nxt_dr hdr X.c)
        have hml := msg_pre hpre hi40 X.c hx500
        have HQF := Lib.hid (fun wx (q : QR wx rb st) => qfeed_walk rb st X.c (by omega) (fedpre hpre hi40 X.c.length hx500) (by omega) wx q)
        unfold FdPost at HQF
        have HNM := Lib.hid (show (st.nxt X.c).most = m by rw [nxt_most]; exact hsm)
        have hrbC : rb < wr.heap.size := lt_of_block HQR.out
        clear hfd
        obtain ⟨c0, c1⟩ := hat2 wr HBC.out
        rw [hf] at c1
        generalize st.msg X.c = ms at *
        generalize st.code X.c = cd at *
        generalize st.nxt X.c = st2 at *
        go_wp2_with fail
        refine HFD.out.mono ?_
        rintro e w3 ⟨a3, ca3, S3, rfl, h3, hS3, r3, n3, -, k3, o3⟩
        have b3 := kp_new HBC.out k3 HSB.out
        have hS3' : ∀ x ∈ S3, w.heap.size ≤ x := fun x hx => (hS3 x hx).elim (HSB.out x) (fun h => Nat.le_trans HBC.out.size h)
        have hrb3 : rb ∉ S3 := by
          intro hm
          rcases hS3 rb hm with h | h
          · exact HRS.out h
          · omega
        have q3 : QR w3 rb st := k3.heap HQR.out HRS.out
        have hs3 := k3.size
        have HBN := Lib.hid (blk_not o3 hrbC)
        clear c0 c1
        obtain ⟨c0, c1⟩ := hat2 w3 b3
        go_wp2_with fail
        refine (HQF.out _ q3).mono ?_
        rintro e w4 ⟨a4, ca4, S4, rfl, ⟨q4, rfl⟩, -, r4, n4, -, k4, -⟩
        have b4 := kp_new b3 k4 (by intro x hx; simp at hx; subst hx; exact hrbw)
        have h4 := HF.out.keep h3 k4 (fun x hx hm => by simp at hm; subst hm; exact hrb3 hx)
        have r3' := rds_kp r3 k4 (fun a ha hm => by simp at hm; have := (n3 a ha).1; omega)
        have o4 := own_kpn o3 k4 (fun g' hg hm => by
          simp at hm
          have := (World.ownsRow.lt o3 g' hg).1
          omega)
        clear k4 q3 h3 r3 b3 c0 c1
        go_wp2_with fail
        refine (sametexts_walk ms hml a3 a4 ca3 ca4 w4 r3' r4).mono ?_
        rintro e w5 ⟨rfl, m5, rfl⟩
        have h5 := HF.out.below h4 (Below_drewT (Below.refl _ _) m5)
        have q5 : QR (w4.drewN m5) rb st2 := q4
        have b5 := Below_drewT b4 m5
        have o5 : OwnS (w4.drewN m5) wr.heap.size 9 (.slice a3 ms.length ca3) ms := o4
        clear h4 q4 b4 o4 r3' r4
        generalize w4.drewN m5 = w5 at *
        have HSM := Lib.hid (same12_walk I FR HF.out.toFOk w5 fb S3 st2 rb h5 q5)
        go_wp2_with fail
        refine HSM.out.mono ?_
        rintro e w6 ⟨rfl, d6⟩
        have h6 := HF.out.below h5 d6
        have q6 : QR w6 rb st2 := (d6.block rb (lt_of_block q5)).trans q5
        have b6 := b5.trans (d6.mono b5.size)
        have o6 := o5.below d6
        have HSP := Lib.hid (spoilS_walk a3 ms.length ca3 (by omega) w6 (RoomS.of o6 rfl))
        clear h5 q5 b5 o5 d6 HSM
        go_wp2_with fail
        refine HSP.out.mono ?_
        rintro e w7 ⟨rfl, k7⟩
        have hblk : ∀ x ∈ blkS a3 ms.length, wr.heap.size ≤ x ∧ x ∉ S3 := by
          intro x hx
          unfold blkS at hx
          split at hx
          · simp at hx
          · cases a3 with
            | none => simp at hx
            | some a => simp at hx; subst hx; exact n3 a rfl
        have H7 := Lib.hid (HF.out.keep h6 k7 (fun x hx hm => (hblk x hm).2 hx))
        have Q7 := Lib.hid (show QR w7 rb st2 from k7.heap q6 HBN.out)
        have B7 := Lib.hid (show Below w.heap.size w w7 from kp_new b6 k7 (fun x hx => Nat.le_trans HBC.out.size (hblk x hx).1))
        have HS7 := Lib.hid hS3'
        have HR7 := Lib.hid hrb3
        clear h6 q6 b6 o6 k7 hblk hS3' hrb3 hS3 n3 n4 hml o3 k3
        go_wp2
        go_roundg g
        case measure => omega
        case rel => exact ⟨i + 1, fb, S3, st2, by omega, by omega, by simp, rfl, H7.out, Q7.out, HS7.out, HR7.out, HNM.out, HND.out, HNP.out, B7.out⟩
      · obtain ⟨c0, c1⟩ := hat2 wr HBC.out
        rw [hf] at c1
        have HFK := Lib.hid (HF.out.fork wr fb S1 st (HI.out _ HBC.out) HFR.out)
        go_wp2_with fail
        refine HFK.out.mono ?_
        rintro e wa ⟨ba, Sa, rfl, ha, hSa, da⟩
        have hba := HBC.out.trans (da.mono HBC.out.size)
        have qa : QR wa rb st := (da.block rb (lt_of_block HQR.out)).trans HQR.out
        have hfa := HF.out.below HFR.out da
        have HSAM := Lib.hid (same12_walk I FR HF.out.toFOk wa ba Sa st rb ha qa)
        have hrbr : rb < wr.heap.size := lt_of_block HQR.out
        clear HFK
        go_wp2_with fail
        refine HSAM.out.mono ?_
        rintro e wb ⟨rfl, db⟩
        have hbb := hba.trans (db.mono hba.size)
        have qb : QR wb rb st := (db.block rb (lt_of_block qa)).trans qa
        have hfb := HF.out.below hfa db
        have hab := HF.out.below ha db
        have hfo := HF.out.feed wb fb S1 st oth9 (HI.out _ hbb) hfb (fedpre hpre hi40 7 (by omega)) (by decide) (by omega)
        unfold FdPost at hfo
        have holit : bs oth9 = ({ data := #[57, 32, 111, 116, 104, 101, 114] } : ByteArray) := rfl
        rw [holit] at hfo
        have HFO := Lib.hid hfo
        have hltS := HF.out.lt HFR.out
        clear HSAM hfo holit da hfa ha qa hba
        go_wp2_with fail
        refine HFO.out.mono ?_
        rintro e wc ⟨ac, cc, Sc, rfl, -, -, -, -, -, kc, -⟩
        have HFR2 := Lib.hid (HF.out.keep hab kc (fun x hx hm => by have := hSa x hx; have := hltS x hm; omega))
        have HQR2 := Lib.hid (show QR wc rb st from kc.heap qb HRS.out)
        have HBC2 := Lib.hid (kp_new hbb kc HSB.out)
        have HSB2 := Lib.hid (show ∀ x ∈ Sa, w.heap.size ≤ x from fun x hx => Nat.le_trans HBC.out.size (hSa x hx))
        have HRS2 := Lib.hid (show rb ∉ Sa from fun hm => by have := hSa rb hm; omega)
        clear kc hfb hab qb hbb hSa hltS db HFO HFR HQR HBC HSB HRS hrbr c0 c1
        have hfd := HF.out.feed wc ba Sa st X.c (HI.out _ HBC2.out) HFR2.out (fedpre hpre hi40 X.c.length hx500) (by omega) (by omega)
        unfold FdPost at hfd
        have HFD := Lib.hid hfd
        have HNP := Lib.hid (nxt_pre hpre X.c hx500)
        have HND := Lib.hid (nxt_dr hdr X.c)
        have hml := msg_pre hpre hi40 X.c hx500
        have HQF := Lib.hid (fun wx (q : QR wx rb st) => qfeed_walk rb st X.c (by omega) (fedpre hpre hi40 X.c.length hx500) (by omega) wx q)
        unfold FdPost at HQF
        have HNM := Lib.hid (show (st.nxt X.c).most = m by rw [nxt_most]; exact hsm)
        have hrbC : rb < wc.heap.size := lt_of_block HQR2.out
        clear hfd
        obtain ⟨c0, c1⟩ := hat2 wc HBC2.out
        rw [hf] at c1
        generalize st.msg X.c = ms at *
        generalize st.code X.c = cd at *
        generalize st.nxt X.c = st2 at *
        go_wp2_with fail
        refine HFD.out.mono ?_
        rintro e w3 ⟨a3, ca3, S3, rfl, h3, hS3, r3, n3, -, k3, o3⟩
        have b3 := kp_new HBC2.out k3 HSB2.out
        have hS3' : ∀ x ∈ S3, w.heap.size ≤ x := fun x hx => (hS3 x hx).elim (HSB2.out x) (fun h => Nat.le_trans HBC2.out.size h)
        have hrb3 : rb ∉ S3 := by
          intro hm
          rcases hS3 rb hm with h | h
          · exact HRS2.out h
          · omega
        have q3 : QR w3 rb st := k3.heap HQR2.out HRS2.out
        have hs3 := k3.size
        have HBN := Lib.hid (blk_not o3 hrbC)
        clear c0 c1
        obtain ⟨c0, c1⟩ := hat2 w3 b3
        go_wp2_with fail
        refine (HQF.out _ q3).mono ?_
        rintro e w4 ⟨a4, ca4, S4, rfl, ⟨q4, rfl⟩, -, r4, n4, -, k4, -⟩
        have b4 := kp_new b3 k4 (by intro x hx; simp at hx; subst hx; exact hrbw)
        have h4 := HF.out.keep h3 k4 (fun x hx hm => by simp at hm; subst hm; exact hrb3 hx)
        have r3' := rds_kp r3 k4 (fun a ha hm => by simp at hm; have := (n3 a ha).1; omega)
        have o4 := own_kpn o3 k4 (fun g' hg hm => by
          simp at hm
          have := (World.ownsRow.lt o3 g' hg).1
          omega)
        clear k4 q3 h3 r3 b3 c0 c1
        go_wp2_with fail
        refine (sametexts_walk ms hml a3 a4 ca3 ca4 w4 r3' r4).mono ?_
        rintro e w5 ⟨rfl, m5, rfl⟩
        have h5 := HF.out.below h4 (Below_drewT (Below.refl _ _) m5)
        have q5 : QR (w4.drewN m5) rb st2 := q4
        have b5 := Below_drewT b4 m5
        have o5 : OwnS (w4.drewN m5) wc.heap.size 9 (.slice a3 ms.length ca3) ms := o4
        clear h4 q4 b4 o4 r3' r4
        generalize w4.drewN m5 = w5 at *
        have HSM := Lib.hid (same12_walk I FR HF.out.toFOk w5 ba S3 st2 rb h5 q5)
        go_wp2_with fail
        refine HSM.out.mono ?_
        rintro e w6 ⟨rfl, d6⟩
        have h6 := HF.out.below h5 d6
        have q6 : QR w6 rb st2 := (d6.block rb (lt_of_block q5)).trans q5
        have b6 := b5.trans (d6.mono b5.size)
        have o6 := o5.below d6
        have HSP := Lib.hid (spoilS_walk a3 ms.length ca3 (by omega) w6 (RoomS.of o6 rfl))
        clear h5 q5 b5 o5 d6 HSM
        go_wp2_with fail
        refine HSP.out.mono ?_
        rintro e w7 ⟨rfl, k7⟩
        have hblk : ∀ x ∈ blkS a3 ms.length, wc.heap.size ≤ x ∧ x ∉ S3 := by
          intro x hx
          unfold blkS at hx
          split at hx
          · simp at hx
          · cases a3 with
            | none => simp at hx
            | some a => simp at hx; subst hx; exact n3 a rfl
        have H7 := Lib.hid (HF.out.keep h6 k7 (fun x hx hm => (hblk x hm).2 hx))
        have Q7 := Lib.hid (show QR w7 rb st2 from k7.heap q6 HBN.out)
        have B7 := Lib.hid (show Below w.heap.size w w7 from kp_new b6 k7 (fun x hx => Nat.le_trans HBC2.out.size (hblk x hx).1))
        have HS7 := Lib.hid hS3'
        have HR7 := Lib.hid hrb3
        clear h6 q6 b6 o6 k7 hblk hS3' hrb3 hS3 n3 n4 hml o3 k3
        go_wp2
        go_roundg g
        case measure => omega
        case rel => exact ⟨i + 1, ba, S3, st2, by omega, by omega, by simp, rfl, H7.out, Q7.out, HS7.out, HR7.out, HNM.out, HND.out, HNP.out, B7.out⟩
  · have e1 : ¬ ((msg.length : Nat) : Int) ≤ 70000 := by omega
    clear hml
    go_wp2_with fail
    refine (works12_walk I FR HF.out.toFOk w2 (HI.out _ b2)).mono ?_
    rintro e w5 ⟨rfl, d5⟩
    have b5 := b2.trans (d5.mono b2.size)
    have h5 := HF.out.below h2 d5
    have q5 : QR w5 rb ⟨m, some [], 0⟩ := (d5.block rb (lt_of_block q2)).trans q2
    clear h2 q2 b2 d5
    go_wp2_with fail
    go_loopg [7, 15] xs.length (fun g v7 v15 wr => FfRel FR xs.length rb m w g v7 v15 wr)
    case atStart => exact ⟨0, b, S, ⟨m, some [], 0⟩, by omega, by omega, rfl, rfl, h5, q5, hS, hrbS, rfl, by simp, .inr (by simp [Fs.hold]), b5⟩
    case round =>
      obtain ⟨i, fb, S1, st, hg, hi40, rfl, rfl, hfr, hqr, hS1, hrb1, hsm, hdr, hpre, hb⟩ := hrel
      have HFR := Lib.hid hfr
      have HQR := Lib.hid hqr
      have HSB := Lib.hid hS1
      have HRS := Lib.hid hrb1
      have HBC := Lib.hid hb
      clear hfr hqr hS1 hrb1 hb h5 q5 hS hrbS b5
      by_cases hex : i < xs.length ∧ i < 40
      rotate_left
      · by_cases hil : i < xs.length
        · have e2 : ((i : Nat) : Int) < ((xs.length : Nat) : Int) := by omega
          have e3 : ¬ ((i : Nat) : Int) < 40 := by omega
          clear hex hil
          go_wp2
          go_ret
          exact ⟨rfl, HBC.out⟩
        · have e2 : ¬ ((i : Nat) : Int) < ((xs.length : Nat) : Int) := by omega
          clear hex hil
          go_wp2
          go_ret
          exact ⟨rfl, HBC.out⟩
      obtain ⟨hil, hi4⟩ := hex
      obtain ⟨g, rfl⟩ : ∃ g, gk = g + 1 := ⟨gk - 1, by omega⟩
      have e2 : ((i : Nat) : Int) < ((xs.length : Nat) : Int) := by omega
      have e3 : ((i : Nat) : Int) < 40 := by omega
      obtain ⟨X, hX⟩ : ∃ X, xs.getD i notn = X := ⟨_, rfl⟩
      have hXl : X.c.length ≤ 140737488351232 := HXL.out X (by rw [← hX, List.getD_eq_getElem?_getD, List.getElem?_eq_getElem hil]; exact List.getElem_mem hil)
      have hat : ∀ wx, Below w.heap.size w wx → ∃ c off, ao = some ⟨c, off, none⟩ ∧ c < wx.heap.size ∧ wx.cell? ⟨c, off + i * 2, none⟩ = some (.string (bs X.c)) ∧ wx.cell? ⟨c, off + i * 2 + 1, none⟩ = some (.bool X.f) := by
        intro wx hb
        rcases HR.out wx hb with h | ⟨c, off, ha, hc, hcc⟩
        · omega
        · have := hcc i hil
          rw [hX] at this
          exact ⟨c, off, ha, hc, this⟩
      by_cases hx500 : 500 < X.c.length
      · have e4 : (500 : Int) < ((X.c.length : Nat) : Int) := by omega
        obtain ⟨c, off, hao, hbc, c0, c1⟩ := hat wr HBC.out
        subst hao
        clear hat hX hx500
        go_wp2
        go_roundg g
        case measure => omega
        case rel => exact ⟨i + 1, fb, S1, st, by omega, by omega, by simp, rfl, HFR.out, HQR.out, HSB.out, HRS.out, hsm, by omega, by rcases hpre with h | h; exact .inl h; exact .inr (by omega), HBC.out⟩
      have e4 : ¬ (500 : Int) < ((X.c.length : Nat) : Int) := by omega
      have hx500 : X.c.length ≤ 500 := by omega
      obtain ⟨c, off, hao, -⟩ := hat wr HBC.out
      subst hao
      have hat2 : ∀ wx, Below w.heap.size w wx → wx.cell? ⟨c, off + i * 2, none⟩ = some (.string (bs X.c)) ∧ wx.cell? ⟨c, off + i * 2 + 1, none⟩ = some (.bool X.f) := by
        intro wx hb
        obtain ⟨c', off', h, _, h2⟩ := hat wx hb
        injection h with h
        injection h with e1 e2
        subst e1 e2
        exact h2
      clear hat hX
      cases hf : X.f
      · have hfd := HF.out.feed wr fb S1 st X.c (HI.out _ HBC.out) HFR.out (fedpre hpre hi40 X.c.length hx500) (by omega) (by omega)
        unfold FdPost at hfd
        have HFD := Lib.hid hfd
        have HNP := Lib.hid (nxt_pre hpre X.c hx500)
        have HND := Lib.hid (nxt_dr hdr X.c)
        have hml := msg_pre hpre hi40 X.c hx500
        have HQF := Lib.hid (fun wx (q : QR wx rb st) => qfeed_walk rb st X.c (by omega) (fedpre hpre hi40 X.c.length hx500) (by omega) wx q)
        unfold FdPost at HQF
        have HNM := Lib.hid (show (st.nxt X.c).most = m by rw [nxt_most]; exact hsm)
        have hrbC : rb < wr.heap.size := lt_of_block HQR.out
        clear hfd
        obtain ⟨c0, c1⟩ := hat2 wr HBC.out
        rw [hf] at c1
        generalize st.msg X.c = ms at *
        generalize st.code X.c = cd at *
        generalize st.nxt X.c = st2 at *
        go_wp2_with fail
        refine HFD.out.mono ?_
        rintro e w3 ⟨a3, ca3, S3, rfl, h3, hS3, r3, n3, -, k3, o3⟩
        have b3 := kp_new HBC.out k3 HSB.out
        have hS3' : ∀ x ∈ S3, w.heap.size ≤ x := fun x hx => (hS3 x hx).elim (HSB.out x) (fun h => Nat.le_trans HBC.out.size h)
        have hrb3 : rb ∉ S3 := by
          intro hm
          rcases hS3 rb hm with h | h
          · exact HRS.out h
          · omega
        have q3 : QR w3 rb st := k3.heap HQR.out HRS.out
        have hs3 := k3.size
        have HBN := Lib.hid (blk_not o3 hrbC)
        clear c0 c1
        obtain ⟨c0, c1⟩ := hat2 w3 b3
        go_wp2_with fail
        refine (HQF.out _ q3).mono ?_
        rintro e w4 ⟨a4, ca4, S4, rfl, ⟨q4, rfl⟩, -, r4, n4, -, k4, -⟩
        have b4 := kp_new b3 k4 (by intro x hx; simp at hx; subst hx; exact hrbw)
        have h4 := HF.out.keep h3 k4 (fun x hx hm => by simp at hm; subst hm; exact hrb3 hx)
        have r3' := rds_kp r3 k4 (fun a ha hm => by simp at hm; have := (n3 a ha).1; omega)
        have o4 := own_kpn o3 k4 (fun g' hg hm => by
          simp at hm
          have := (World.ownsRow.lt o3 g' hg).1
          omega)
        clear k4 q3 h3 r3 b3 c0 c1
        go_wp2_with fail
        refine (sametexts_walk ms hml a3 a4 ca3 ca4 w4 r3' r4).mono ?_
        rintro e w5 ⟨rfl, m5, rfl⟩
        have h5 := HF.out.below h4 (Below_drewT (Below.refl _ _) m5)
        have q5 : QR (w4.drewN m5) rb st2 := q4
        have b5 := Below_drewT b4 m5
        have o5 : OwnS (w4.drewN m5) wr.heap.size 9 (.slice a3 ms.length ca3) ms := o4
        clear h4 q4 b4 o4 r3' r4
        generalize w4.drewN m5 = w5 at *
        have HSM := Lib.hid (same12_walk I FR HF.out.toFOk w5 fb S3 st2 rb h5 q5)
        go_wp2_with fail
        refine HSM.out.mono ?_
        rintro e w6 ⟨rfl, d6⟩
        have h6 := HF.out.below h5 d6
        have q6 : QR w6 rb st2 := (d6.block rb (lt_of_block q5)).trans q5
        have b6 := b5.trans (d6.mono b5.size)
        have o6 := o5.below d6
        have HSP := Lib.hid (spoilS_walk a3 ms.length ca3 (by omega) w6 (RoomS.of o6 rfl))
        clear h5 q5 b5 o5 d6 HSM
        go_wp2_with fail
        refine HSP.out.mono ?_
        rintro e w7 ⟨rfl, k7⟩
        have hblk : ∀ x ∈ blkS a3 ms.length, wr.heap.size ≤ x ∧ x ∉ S3 := by
          intro x hx
          unfold blkS at hx
          split at hx
          · simp at hx
          · cases a3 with
            | none => simp at hx
            | some a => simp at hx; subst hx; exact n3 a rfl
        have H7 := Lib.hid (HF.out.keep h6 k7 (fun x hx hm => (hblk x hm).2 hx))
        have Q7 := Lib.hid (show QR w7 rb st2 from k7.heap q6 HBN.out)
        have B7 := Lib.hid (show Below w.heap.size w w7 from kp_new b6 k7 (fun x hx => Nat.le_trans HBC.out.size (hblk x hx).1))
        have HS7 := Lib.hid hS3'
        have HR7 := Lib.hid hrb3
        clear h6 q6 b6 o6 k7 hblk hS3' hrb3 hS3 n3 n4 hml o3 k3
        go_wp2
        go_roundg g
        case measure => omega
        case rel => exact ⟨i + 1, fb, S3, st2, by omega, by omega, by simp, rfl, H7.out, Q7.out, HS7.out, HR7.out, HNM.out, HND.out, HNP.out, B7.out⟩
      · obtain ⟨c0, c1⟩ := hat2 wr HBC.out
        rw [hf] at c1
        have HFK := Lib.hid (HF.out.fork wr fb S1 st (HI.out _ HBC.out) HFR.out)
        go_wp2_with fail
        refine HFK.out.mono ?_
        rintro e wa ⟨ba, Sa, rfl, ha, hSa, da⟩
        have hba := HBC.out.trans (da.mono HBC.out.size)
        have qa : QR wa rb st := (da.block rb (lt_of_block HQR.out)).trans HQR.out
        have hfa := HF.out.below HFR.out da
        have HSAM := Lib.hid (same12_walk I FR HF.out.toFOk wa ba Sa st rb ha qa)
        have hrbr : rb < wr.heap.size := lt_of_block HQR.out
        clear HFK
        go_wp2_with fail
        refine HSAM.out.mono ?_
        rintro e wb ⟨rfl, db⟩
        have hbb := hba.trans (db.mono hba.size)
        have qb : QR wb rb st := (db.block rb (lt_of_block qa)).trans qa
        have hfb := HF.out.below hfa db
        have hab := HF.out.below ha db
        have hfo := HF.out.feed wb fb S1 st oth9 (HI.out _ hbb) hfb (fedpre hpre hi40 7 (by omega)) (by decide) (by omega)
        unfold FdPost at hfo
        have holit : bs oth9 = ({ data := #[57, 32, 111, 116, 104, 101, 114] } : ByteArray) := rfl
        rw [holit] at hfo
        have HFO := Lib.hid hfo
        have hltS := HF.out.lt HFR.out
        clear HSAM hfo holit da hfa ha qa hba
        go_wp2_with fail
        refine HFO.out.mono ?_
        rintro e wc ⟨ac, cc, Sc, rfl, -, -, -, -, -, kc, -⟩
        have HFR2 := Lib.hid (HF.out.keep hab kc (fun x hx hm => by have := hSa x hx; have := hltS x hm; omega))
        have HQR2 := Lib.hid (show QR wc rb st from kc.heap qb HRS.out)
        have HBC2 := Lib.hid (kp_new hbb kc HSB.out)
        have HSB2 := Lib.hid (show ∀ x ∈ Sa, w.heap.size ≤ x from fun x hx => Nat.le_trans HBC.out.size (hSa x hx))
        have HRS2 := Lib.hid (show rb ∉ Sa from fun hm => by have := hSa rb hm; omega)
        clear kc hfb hab qb hbb hSa hltS db HFO HFR HQR HBC HSB HRS hrbr c0 c1
        have hfd := HF.out.feed wc ba Sa st X.c (HI.out _ HBC2.out) HFR2.out (fedpre hpre hi40 X.c.length hx500) (by omega) (by omega)
        unfold FdPost at hfd
        have HFD := Lib.hid hfd
        have HNP := Lib.hid (nxt_pre hpre X.c hx500)
        have HND := Lib.hid (nxt_dr hdr X.c)
        have hml := msg_pre hpre hi40 X.c hx500
        have HQF := Lib.hid (fun wx (q : QR wx rb st) => qfeed_walk rb st X.c (by omega) (fedpre hpre hi40 X.c.length hx500) (by omega) wx q)
        unfold FdPost at HQF
        have HNM := Lib.hid (show (st.nxt X.c).most = m by rw [nxt_most]; exact hsm)
        have hrbC : rb < wc.heap.size := lt_of_block HQR2.out
        clear hfd
        obtain ⟨c0, c1⟩ := hat2 wc HBC2.out
        rw [hf] at c1
        generalize st.msg X.c = ms at *
        generalize st.code X.c = cd at *
        generalize st.nxt X.c = st2 at *
        go_wp2_with fail
        refine HFD.out.mono ?_
        rintro e w3 ⟨a3, ca3, S3, rfl, h3, hS3, r3, n3, -, k3, o3⟩
        have b3 := kp_new HBC2.out k3 HSB2.out
        have hS3' : ∀ x ∈ S3, w.heap.size ≤ x := fun x hx => (hS3 x hx).elim (HSB2.out x) (fun h => Nat.le_trans HBC2.out.size h)
        have hrb3 : rb ∉ S3 := by
          intro hm
          rcases hS3 rb hm with h | h
          · exact HRS2.out h
          · omega
        have q3 : QR w3 rb st := k3.heap HQR2.out HRS2.out
        have hs3 := k3.size
        have HBN := Lib.hid (blk_not o3 hrbC)
        clear c0 c1
        obtain ⟨c0, c1⟩ := hat2 w3 b3
        go_wp2_with fail
        refine (HQF.out _ q3).mono ?_
        rintro e w4 ⟨a4, ca4, S4, rfl, ⟨q4, rfl⟩, -, r4, n4, -, k4, -⟩
        have b4 := kp_new b3 k4 (by intro x hx; simp at hx; subst hx; exact hrbw)
        have h4 := HF.out.keep h3 k4 (fun x hx hm => by simp at hm; subst hm; exact hrb3 hx)
        have r3' := rds_kp r3 k4 (fun a ha hm => by simp at hm; have := (n3 a ha).1; omega)
        have o4 := own_kpn o3 k4 (fun g' hg hm => by
          simp at hm
          have := (World.ownsRow.lt o3 g' hg).1
          omega)
        clear k4 q3 h3 r3 b3 c0 c1
        go_wp2_with fail
        refine (sametexts_walk ms hml a3 a4 ca3 ca4 w4 r3' r4).mono ?_
        rintro e w5 ⟨rfl, m5, rfl⟩
        have h5 := HF.out.below h4 (Below_drewT (Below.refl _ _) m5)
        have q5 : QR (w4.drewN m5) rb st2 := q4
        have b5 := Below_drewT b4 m5
        have o5 : OwnS (w4.drewN m5) wc.heap.size 9 (.slice a3 ms.length ca3) ms := o4
        clear h4 q4 b4 o4 r3' r4
        generalize w4.drewN m5 = w5 at *
        have HSM := Lib.hid (same12_walk I FR HF.out.toFOk w5 ba S3 st2 rb h5 q5)
        go_wp2_with fail
        refine HSM.out.mono ?_
        rintro e w6 ⟨rfl, d6⟩
        have h6 := HF.out.below h5 d6
        have q6 : QR w6 rb st2 := (d6.block rb (lt_of_block q5)).trans q5
        have b6 := b5.trans (d6.mono b5.size)
        have o6 := o5.below d6
        have HSP := Lib.hid (spoilS_walk a3 ms.length ca3 (by omega) w6 (RoomS.of o6 rfl))
        clear h5 q5 b5 o5 d6 HSM
        go_wp2_with fail
        refine HSP.out.mono ?_
        rintro e w7 ⟨rfl, k7⟩
        have hblk : ∀ x ∈ blkS a3 ms.length, wc.heap.size ≤ x ∧ x ∉ S3 := by
          intro x hx
          unfold blkS at hx
          split at hx
          · simp at hx
          · cases a3 with
            | none => simp at hx
            | some a => simp at hx; subst hx; exact n3 a rfl
        have H7 := Lib.hid (HF.out.keep h6 k7 (fun x hx hm => (hblk x hm).2 hx))
        have Q7 := Lib.hid (show QR w7 rb st2 from k7.heap q6 HBN.out)
        have B7 := Lib.hid (show Below w.heap.size w w7 from kp_new b6 k7 (fun x hx => Nat.le_trans HBC2.out.size (hblk x hx).1))
        have HS7 := Lib.hid hS3'
        have HR7 := Lib.hid hrb3
        clear h6 q6 b6 o6 k7 hblk hS3' hrb3 hS3 n3 n4 hml o3 k3
        go_wp2
        go_roundg g
        case measure => omega
        case rel => exact ⟨i + 1, ba, S3, st2, by omega, by omega, by simp, rfl, H7.out, Q7.out, HS7.out, HR7.out, HNM.out, HND.out, HNP.out, B7.out⟩
end Go.Proofs.YtndinelljmjfaaaDoor
