/-
  Package prog: Text, by a contract.
-/
import Derived.Test.YtakmmpbkojhmhaaGreatDoorPN
import Derived.Test.YtakmmpbkojhmhaaGreatDoorPJ
namespace Go.Proofs.YtakmmpbkojhmhaaGreatDoor
open Go.RowKit Go.Extern.Stop Go.Stop Go.Extern

/-- The builder of Text, in its own block. -/
abbrev Bld (B : Nat) (l : Bs) (w : World) : Prop := Lib.IsBuilder 95 5 B B (Lib.byteCells l) w
/-- What is known behind the two namers. -/
structure Mid2 (w wx : World) (P : ProgD) (v1 v2 v3 : Value) (nb fb : Nat) : Prop where
  n1 : NamesAt wx nb P.vars
  n2 : NamesAt wx fb (fnames P)
  bel : Below w.heap.size w wx
  box : Box3 wx w.heap.size v1 v2 v3

set_option maxRecDepth 100000 in
set_option maxHeartbeats 8000000 in
theorem text_right (a : Nat → Addr) (P : ProgD) (v1 v2 v3 : Value) (w : World) (hs : SmallP P) (h : IsProg w v1 v2 v3 P) (hE : Errs5 w a) (hc : checkE P = none) :
    Calls Tryz.prog 29 #[.agg #[v1, v2, v3]] w fun e w' => e = .returned (.string (S (textP P))) ∧ Below w.heap.size w w' := by
  have H : Hid (IsProg w v1 v2 v3 P) := h
  have HE : Hid (Errs5 w a) := hE
  have HS : Hid (SmallP P) := hs
  have HR : Hid (Right P) := right_of hc
  have HC : Hid (checkE P = none) := hc
  obtain ⟨hz1, hz2, hz3⟩ := right_sizes hc
  obtain ⟨⟨a1, c1, rfl, -, -⟩, ⟨a2, c2, rfl, -, -⟩, ⟨a3, c3, rfl, -, -⟩⟩ := h
  clear hE hs hc
  obtain ⟨T, hT⟩ : ∃ T, T = S (textP P) := ⟨_, rfl⟩
  rw [← hT]
  have HT : Hid (T = S (textP P)) := hT
  clear hT
  generalize hn1 : P.vars.length = n1 at *
  generalize hn2 : P.funs.length = n2 at *
  generalize hn3 : P.stmts.length = n3 at *
  have HN : Hid (P.vars.length = n1 ∧ P.funs.length = n2 ∧ P.stmts.length = n3) := ⟨hn1, hn2, hn3⟩
  clear hn1 hn2 hn3
  have hfl : (fnames P).length = n2 := by unfold fnames; rw [List.length_map]; exact HN.out.2.1
  have C1 : Hid (∀ wx, Below w.heap.size w wx → Box3 wx w.heap.size (.slice a1 n1 c1) (.slice a2 n2 c2) (.slice a3 n3 c3) → Calls Tryz.prog 70 #[.slice a1 n1 c1] wx fun e w' =>
      ∃ nb, e = .returned (namerF nb) ∧ NamesAt w' nb P.vars ∧ Below w.heap.size w w' ∧ w'.cell? ⟨w.heap.size, 0, none⟩ = some (.slice a1 n1 c1) ∧ w'.cell? ⟨w.heap.size, 1, none⟩ = some (.slice a2 n2 c2) ∧ w'.cell? ⟨w.heap.size, 2, none⟩ = some (.slice a3 n3 c3)) := fun wx hB hb => by
    refine (namer_any P.vars _ wx (H.out.below hB).vars).mono ?_
    rintro e w' ⟨nb, rfl, hv, hB'⟩
    have hb' := hb.below hB'
    exact ⟨nb, rfl, hv, hB.trans (hB'.mono hB.size), hb'.1, hb'.2.1, hb'.2.2⟩
  have C2 : Hid (∀ wx nb, Below w.heap.size w wx → NamesAt wx nb P.vars → Box3 wx w.heap.size (.slice a1 n1 c1) (.slice a2 n2 c2) (.slice a3 n3 c3) → Calls Tryz.prog 67 #[.agg #[.slice a1 n1 c1, .slice a2 n2 c2, .slice a3 n3 c3]] wx fun e w' =>
      ∃ av cv, e = .returned (.slice av n2 cv) ∧ IsStrs w' (.slice av n2 cv) (fnames P) ∧ NamesAt w' nb P.vars ∧ Below w.heap.size w w' ∧ w'.cell? ⟨w.heap.size, 0, none⟩ = some (.slice a1 n1 c1) ∧ w'.cell? ⟨w.heap.size, 1, none⟩ = some (.slice a2 n2 c2) ∧ w'.cell? ⟨w.heap.size, 2, none⟩ = some (.slice a3 n3 c3)) := fun wx nb hB hnb hb => by
    refine (funNames_any P _ _ _ wx (by rw [HN.out.2.1]; omega) (H.out.below hB)).mono ?_
    rintro e w' ⟨v', rfl, hv, hB'⟩
    obtain ⟨av, cv, hvv, _⟩ := id hv
    rw [hfl] at hvv
    subst hvv
    have hb' := hb.below hB'
    exact ⟨av, cv, rfl, hv, hnb.below hB', hB.trans (hB'.mono hB.size), hb'.1, hb'.2.1, hb'.2.2⟩
  have C3 : Hid (∀ wx nb av cv, Below w.heap.size w wx → NamesAt wx nb P.vars → IsStrs wx (.slice av n2 cv) (fnames P) → Box3 wx w.heap.size (.slice a1 n1 c1) (.slice a2 n2 c2) (.slice a3 n3 c3) → Calls Tryz.prog 70 #[.slice av n2 cv] wx fun e w' =>
      ∃ fb, e = .returned (namerF fb) ∧ Mid2 w w' P (.slice a1 n1 c1) (.slice a2 n2 c2) (.slice a3 n3 c3) nb fb) := fun wx nb av cv hB hnb hv hb => by
    refine (namer_any (fnames P) _ wx hv).mono ?_
    rintro e w' ⟨fb, rfl, hf, hB'⟩
    exact ⟨fb, rfl, hnb.below hB', hf, hB.trans (hB'.mono hB.size), hb.below hB'⟩
  clear hfl
  go_enter Tryz.func29, Tryz.ntmps29
  go_wp2_with fail
  refine (check_any a P _ _ _ _ HS.out (H.out.below (below1 w _)) (HE.out.below (below1 w _))).mono ?_
  rintro e w1 ⟨v', rfl, hv, hB1⟩
  have hBw : Below w.heap.size w w1 := (below1 w _).trans (hB1.mono (below1 w _).size)
  have hbx := (box3_new w (.slice a1 n1 c1) (.slice a2 n2 c2) (.slice a3 n3 c3) 43).below hB1
  have HBX : Hid (Box3 w1 w.heap.size (.slice a1 n1 c1) (.slice a2 n2 c2) (.slice a3 n3 c3)) := hbx
  obtain ⟨b0, b1, b2⟩ := hbx
  rcases hv.cases with ⟨h1, rfl⟩ | ⟨h1, t, x, rfl⟩
  case inr => rw [HC.out] at h1; cases h1
  clear hv hB1 h1
  go_upto_region 3 with fail
  go_cut [3, 4] (fun s3 s4 wx => ∃ nb fb, s3 = namerF nb ∧ s4 = namerF fb ∧ Mid2 w wx P (.slice a1 n1 c1) (.slice a2 n2 c2) (.slice a3 n3 c3) nb fb)
  case first =>
    go_region_with first
      | (go_at_call_of 70 a1; refine (C1.out _ ?_ ?_).mono ?_; exact hBw.drew; exact HBX.out; rintro e wa ⟨nb, rfl, hna, hBa, d0, d1, d2⟩)
      | (go_at_call 67; refine (C2.out _ nb ?_ ?_ ?_).mono ?_; exact hBa; exact hna; exact ⟨d0, d1, d2⟩; rintro e wb ⟨av, cv, rfl, hv, hnb, hBb, f0, f1, f2⟩)
      | (go_at_call 70; refine (C3.out _ nb av cv ?_ ?_ ?_ ?_).mono ?_; exact hBb; exact hnb; exact hv; exact ⟨f0, f1, f2⟩; rintro e wq ⟨fb, rfl, hm⟩)
    all_goals (go_wp2_with fail; go_meet)
    all_goals exact ⟨nb, fb, rfl, rfl, hm⟩
  case rest =>
  obtain ⟨nb, fb, rfl, rfl, hm⟩ := hcut
  have HM : Hid (Mid2 w wc P (.slice a1 n1 c1) (.slice a2 n2 c2) (.slice a3 n3 c3) nb fb) := hm
  have q0 := fun o => cell_keep (below1 wc o) hm.box.1
  have HP : Hid (IsProg wc (.slice a1 n1 c1) (.slice a2 n2 c2) (.slice a3 n3 c3) P) := H.out.below hm.bel
  clear hm C1 C2 C3 b0 b1 b2 hBw HBX H HE
  go_wp2_with fail
  clear q0
  go_loopw [24] (fun t wr => ∃ k : Nat, k ≤ n1 ∧ t = .int .i64 k ∧ Below wc.heap.size wc wr ∧ Bld wc.heap.size (ended ((P.vars.take k).map lineVar)) wr) (fun t _ => (n1 - intOf t).toNat)
  case atStart => exact ⟨0, Nat.zero_le _, rfl, below1 wc _, Or.inl (by have := Lib.fresh_isBuilder 95 5 wc; rcases this with g | g; exact g; exact absurd g.cell0 (by simp))⟩
  case round =>
    obtain ⟨k, hk, rfl, hB, hbl⟩ := hrel
    have HBL : Hid (Bld wc.heap.size (ended ((P.vars.take k).map lineVar)) wr) := hbl
    clear hbl
    by_cases hlt : k < n1
    · have hl : k < P.vars.length := by rw [HN.out.1]; exact hlt
      obtain ⟨_, _, hv1, _, hst1⟩ := (HP.out.below hB).vars
      obtain ⟨b, o, ha1, e0⟩ := hst1 k hl
      obtain rfl : a1 = some ⟨b, o, none⟩ := by rw [← ha1]; exact (Value.slice.inj hv1).1
      obtain ⟨z, hze⟩ : ∃ z, z = P.vars.getD k [] := ⟨_, rfl⟩
      have hnm : isNm z = true := by rw [hze]; exact all_at HR.out.vn k [] hl
      rw [← hze] at e0
      have het := ended_take lineVar P.vars [] k hl []
      rw [← hze, List.nil_append, List.nil_append] at het
      obtain ⟨zb, hzb⟩ : ∃ zb, zb = S z := ⟨_, rfl⟩
      have hzz : zb.size ≤ 8 := by rw [hzb, S_size]; exact (isNm_parts hnm).2.2.2.2.2.2.1
      have hsm := ended_small lineVar P.vars k (by rw [HN.out.1]; omega) (lineVar_le HR.out)
      have hsl : (lineVar z ++ [10]).length ≤ 100 := by
        have := (isNm_parts hnm).2.2.2.2.2.2.1
        unfold lineVar
        simp only [List.length_append, List.length_cons, List.length_nil]
        omega
      have HW : Hid (Calls Tryz.prog 71 #[.pointer (some ⟨wc.heap.size, 0, none⟩), .string (⟨#[118, 97, 114, 32]⟩ ++ zb ++ ⟨#[10]⟩)] wr fun e w' => ∃ q, e = .returned (.tuple #[.int .i64 q, .nilIface]) ∧ Bld wc.heap.size (ended ((P.vars.take (k + 1)).map lineVar)) w' ∧ Below wc.heap.size wr w') := by
        have e1 : (⟨#[118, 97, 114, 32]⟩ ++ zb ++ ⟨#[10]⟩ : ByteArray) = S (lineVar z ++ [10]) := by
          show S [118, 97, 114, 32] ++ zb ++ S [10] = _
          rw [hzb, S_append, S_append]; rfl
        rw [e1, het]
        exact writeString_any wc.heap.size wc.heap.size _ _ wr HBL.out (by omega) hB.size
      rw [← hzb] at e0
      clear hv1 hst1 ha1 hze hnm het hzb hsm hsl hl HBL
      go_wp2_with fail
      refine HW.out.mono ?_
      rintro e w2 ⟨q, rfl, hb2, hB2⟩
      have HX : Hid (Bld wc.heap.size (ended ((P.vars.take (k + 1)).map lineVar)) w2 ∧ Below wc.heap.size wc w2) := ⟨hb2, hB.trans hB2⟩
      clear hb2 hB2 HW
      go_wp2_with fail
      go_roundw
      case rel => exact ⟨k + 1, hlt, by go_num, HX.out.2, HX.out.1⟩
      case measure => simp [intOf]; omega
    · have HV : Hid (Bld wc.heap.size (ended (P.vars.map lineVar)) wr) := by
        show Bld wc.heap.size (ended (P.vars.map lineVar)) wr
        have := HBL.out
        rwa [show k = P.vars.length by rw [HN.out.1]; omega, List.take_length] at this
      have d1 := (HM.out.box.below hB).2.1
      clear HBL
      obtain ⟨wv, hwv⟩ : ∃ wv, wv = wr := ⟨_, rfl⟩
      rw [← hwv] at HV hB d1 ⊢
      clear hwv
      go_wp2_with fail
      clear d1
      go_loopw [36] (fun t wr => ∃ k : Nat, k ≤ n2 ∧ t = .int .i64 k ∧ Below wc.heap.size wc wr ∧ Bld wc.heap.size (ended (P.vars.map lineVar) ++ ended ((P.funs.take k).map (lineFun P))) wr) (fun t _ => (n2 - intOf t).toNat)
      case atStart => exact ⟨0, Nat.zero_le _, rfl, hB, by simpa [ended] using HV.out⟩
      case round =>
        obtain ⟨k, hk, rfl, hB, hbl⟩ := hrel
        have HBL : Hid (Bld wc.heap.size (ended (P.vars.map lineVar) ++ ended ((P.funs.take k).map (lineFun P))) wr) := hbl
        clear hbl HV
        by_cases hlt : k < n2
        · have hl : k < P.funs.length := by rw [HN.out.2.1]; exact hlt
          obtain ⟨_, _, hv2, _, hst2⟩ := (HP.out.below hB).funs
          obtain ⟨b, o, ha2, e0⟩ := hst2 k hl
          obtain rfl : a2 = some ⟨b, o, none⟩ := by rw [← ha2]; exact (Value.slice.inj hv2).1
          obtain ⟨z, hze⟩ : ∃ z, z = P.funs.getD k default := ⟨_, rfl⟩
          have hmem : z ∈ P.funs := by rw [hze]; simp [List.getD, hl]
          rw [← hze] at e0
          have het := ended_take (lineFun P) P.funs default k hl (ended (P.vars.map lineVar))
          rw [← hze] at het
          obtain ⟨pv, g1, g2, hi, g3⟩ := e0
          have hnm : isNm z.name = true := List.all_eq_true.1 HR.out.fn z.name (List.mem_map.2 ⟨z, hmem, rfl⟩)
          obtain ⟨hpar, hret⟩ := HR.out.fp z hmem
          have hp3 := right_params HC.out z hmem
          have hsn := namesT_le HR.out z.params hpar hp3
          have hlf := lineFun_le HR.out z hmem hp3
          obtain ⟨nm, hnme⟩ : ∃ nm, nm = S z.name := ⟨_, rfl⟩
          obtain ⟨lb, hlb⟩ : ∃ lb, lb = S (namesT P z.params) := ⟨_, rfl⟩
          obtain ⟨rb, hrb⟩ : ∃ rb, rb = S (nameOf P z.ret) := ⟨_, rfl⟩
          have hz1' : nm.size ≤ 8 := by rw [hnme, S_size]; exact (isNm_parts hnm).2.2.2.2.2.2.1
          have hz2' : lb.size ≤ 32 := by rw [hlb, S_size]; exact hsn
          have hz3' : rb.size ≤ 8 := by rw [hrb, S_size]; exact (isNm_parts (HR.out.name hret)).2.2.2.2.2.2.1
          have hsm := ended_small (lineFun P) P.funs k (by rw [HN.out.2.1]; omega) (fun f hf => lineFun_le HR.out f hf (right_params HC.out f hf))
          have hsv := ended_small lineVar P.vars P.vars.length (by rw [HN.out.1]; omega) (lineVar_le HR.out)
          rw [List.take_length] at hsv
          have CL : Hid (∀ wx, Below wr.heap.size wr wx → Box3 wx wr.heap.size (.string nm) pv (.int .i64 z.ret) → Calls Tryz.prog 72 #[pv, namerF nb] wx fun e w' => e = .returned (.string lb) ∧ Below wr.heap.size wr w' ∧ w'.cell? ⟨wr.heap.size, 0, none⟩ = some (.string nm) ∧ w'.cell? ⟨wr.heap.size, 1, none⟩ = some pv ∧ w'.cell? ⟨wr.heap.size, 2, none⟩ = some (.int .i64 z.ret)) := fun wx hbx hbo => by
            refine (list_any P.vars z.params _ nb wx (by omega) (hi.below hbx).1 ((HM.out.n1.below hB).below hbx) (fun k hk => varB_in (List.all_eq_true.1 hpar k hk)) ?_).mono ?_
            · exact Nat.le_trans (HR.out.short z.params hpar) (by omega)
            · rintro e w' ⟨rfl, hB'⟩
              have hbo' := hbo.below hB'
              exact ⟨by rw [hlb]; rfl, hbx.trans (hB'.mono hbx.size), hbo'.1, hbo'.2.1, hbo'.2.2⟩
          have CR : Hid (∀ wx, Below wr.heap.size wr wx → Calls Tryz.prog 110 #[.int .i64 z.ret, .pointer (some ⟨nb, 0, none⟩)] wx fun e w' => e = .returned (.string rb) ∧ w' = wx) := fun wx hbx => by
            rw [hrb]
            exact namer1_any P.vars z.ret nb wx ((HM.out.n1.below hB).below hbx) (varB_in hret).1 (varB_in hret).2
          have CW : Hid (∀ wx, Below wr.heap.size wr wx → Calls Tryz.prog 71 #[.pointer (some ⟨wc.heap.size, 0, none⟩), .string (⟨#[102, 110, 32]⟩ ++ nm ++ lb ++ ⟨#[32]⟩ ++ rb ++ ⟨#[10]⟩)] wx fun e w' => ∃ q, e = .returned (.tuple #[.int .i64 q, .nilIface]) ∧ Bld wc.heap.size (ended (P.vars.map lineVar) ++ ended ((P.funs.take (k + 1)).map (lineFun P))) w' ∧ Below wc.heap.size wc w') := fun wx hbx => by
            have e1 : (⟨#[102, 110, 32]⟩ ++ nm ++ lb ++ ⟨#[32]⟩ ++ rb ++ ⟨#[10]⟩ : ByteArray) = S (lineFun P z ++ [10]) := by
              show S [102, 110, 32] ++ nm ++ lb ++ S [32] ++ rb ++ S [10] = _
              rw [hnme, hlb, hrb, S_append, S_append, S_append, S_append, S_append]; rfl
            rw [e1, het]
            have hBx : Below wc.heap.size wc wx := hB.trans (hbx.mono hB.size)
            refine (writeString_any wc.heap.size wc.heap.size _ _ wx (isBuilder_below HBL.out hbx) (by
              simp only [List.length_append, List.length_cons, List.length_nil] at hlf ⊢
              omega) hBx.size).mono ?_
            rintro e w' ⟨q, rfl, h1, h2⟩
            exact ⟨q, rfl, h1, hBx.trans h2⟩
          have m1 : ¬ 9223372036854775807 < 3 + nm.size := by omega
          have m2 : ¬ 9223372036854775807 < 3 + nm.size + lb.size := by omega
          have m3 : ¬ 9223372036854775807 < 3 + nm.size + lb.size + 1 := by omega
          have m4 : ¬ 9223372036854775807 < 3 + nm.size + lb.size + 1 + rb.size := by omega
          have m5 : ¬ 9223372036854775807 < 3 + nm.size + lb.size + 1 + rb.size + 1 := by omega
          obtain ⟨-, pa, pc, rfl, -⟩ := hi
          rw [← hnme] at g1
          clear hv2 hst2 ha2 hze hmem het hnm hpar hret hp3 hsn hlf hnme hlb hrb hz1' hz2' hz3' hsm hsv hl HBL
          go_upto_region 13 with fail
          go_region_with first
            | (go_at_call 72; refine (CL.out _ ?_ ?_).mono ?_; exact (below1 wr _).drew; exact box3_new wr _ _ _ _; rintro e wl ⟨rfl, hBl, l0, l1, l2⟩)
            | (go_at_call 110; refine (CR.out _ ?_).mono ?_; exact hBl; rintro e wn ⟨rfl, rfl⟩)
            | (go_at_call 71; refine (CW.out _ ?_).mono ?_; exact hBl; rintro e ww ⟨q, rfl, hbw, hBw2⟩)
          all_goals (go_wp2_with fail; go_roundw)
          all_goals first
            | exact ⟨k + 1, hlt, by go_num, hBw2, hbw⟩
            | (simp [intOf]; omega)
        · have HF : Hid (Bld wc.heap.size (ended (P.vars.map lineVar) ++ ended (P.funs.map (lineFun P))) wr) := by
            show Bld wc.heap.size (ended (P.vars.map lineVar) ++ ended (P.funs.map (lineFun P))) wr
            have := HBL.out
            rwa [show k = P.funs.length by rw [HN.out.2.1]; omega, List.take_length] at this
          have d2 := (HM.out.box.below hB).2.2
          clear HBL
          obtain ⟨wf, hwf⟩ : ∃ wf, wf = wr := ⟨_, rfl⟩
          rw [← hwf] at HF hB d2 ⊢
          clear hwf
          go_wp2_with fail
          clear d2
          go_loopw [60] (fun t wr => ∃ k : Nat, k ≤ n3 ∧ t = .int .i64 k ∧ Below wc.heap.size wc wr ∧ Bld wc.heap.size ((ended (P.vars.map lineVar) ++ ended (P.funs.map (lineFun P))) ++ ended ((P.stmts.take k).map (lineStmt P))) wr) (fun t _ => (n3 - intOf t).toNat)
          case atStart => exact ⟨0, Nat.zero_le _, rfl, hB, by simpa [ended] using HF.out⟩
          case round =>
            obtain ⟨k, hk, rfl, hB, hbl⟩ := hrel
            have HBL : Hid (Bld wc.heap.size ((ended (P.vars.map lineVar) ++ ended (P.funs.map (lineFun P))) ++ ended ((P.stmts.take k).map (lineStmt P))) wr) := hbl
            clear hbl HF
            by_cases hlt : k < n3
            · have hl : k < P.stmts.length := by rw [HN.out.2.2]; exact hlt
              obtain ⟨_, _, hv3, _, hst3⟩ := (HP.out.below hB).stmts
              obtain ⟨b, o, ha3, e0⟩ := hst3 k hl
              obtain rfl : a3 = some ⟨b, o, none⟩ := by rw [← ha3]; exact (Value.slice.inj hv3).1
              obtain ⟨z, hze⟩ : ∃ z, z = P.stmts.getD k default := ⟨_, rfl⟩
              have hmem : z ∈ P.stmts := by rw [hze]; simp [List.getD, hl]
              rw [← hze] at e0
              have het := ended_take (lineStmt P) P.stmts default k hl (ended (P.vars.map lineVar) ++ ended (P.funs.map (lineFun P)))
              rw [← hze] at het
              obtain ⟨pv, g1, g2, g3, g4, hi⟩ := e0
              have hst := HR.out.st z hmem
              have hls := lineStmt_le HR.out z hst
              obtain ⟨lb, hlb⟩ : ∃ lb, lb = S (lineStmt P z) := ⟨_, rfl⟩
              have hz1' : lb.size ≤ 100 := by rw [hlb, S_size]; exact hls
              have hsm := ended_small (lineStmt P) P.stmts k (by rw [HN.out.2.2]; omega) (fun s hs => lineStmt_le HR.out s (HR.out.st s hs))
              have hsv := ended_small lineVar P.vars P.vars.length (by rw [HN.out.1]; omega) (lineVar_le HR.out)
              have hsf := ended_small (lineFun P) P.funs P.funs.length (by rw [HN.out.2.1]; omega) (fun f hf => lineFun_le HR.out f hf (right_params HC.out f hf))
              rw [List.take_length] at hsv hsf
              have CS : Hid (∀ wx, Below wr.heap.size wr wx → Calls Tryz.prog 73 #[.agg #[.string (S z.kind), .int .i64 z.x, .int .i64 z.y, pv], namerF nb, namerF fb] wx fun e w' => e = .returned (.string lb) ∧ Below wr.heap.size wr w') := fun wx hbx => by
                rw [hlb]
                refine (stmtText_any P z pv nb fb wx HR.out hst (hi.below hbx).1 ((HM.out.n1.below hB).below hbx) ((HM.out.n2.below hB).below hbx)).mono ?_
                rintro e w' ⟨rfl, hB'⟩
                exact ⟨rfl, hbx.trans (hB'.mono hbx.size)⟩
              have CW : Hid (∀ wx, Below wr.heap.size wr wx → Calls Tryz.prog 71 #[.pointer (some ⟨wc.heap.size, 0, none⟩), .string (lb ++ ⟨#[10]⟩)] wx fun e w' => ∃ q, e = .returned (.tuple #[.int .i64 q, .nilIface]) ∧ Bld wc.heap.size ((ended (P.vars.map lineVar) ++ ended (P.funs.map (lineFun P))) ++ ended ((P.stmts.take (k + 1)).map (lineStmt P))) w' ∧ Below wc.heap.size wc w') := fun wx hbx => by
                have e1 : (lb ++ ⟨#[10]⟩ : ByteArray) = S (lineStmt P z ++ [10]) := by
                  show lb ++ S [10] = _
                  rw [hlb, S_append]
                rw [e1, het]
                have hBx : Below wc.heap.size wc wx := hB.trans (hbx.mono hB.size)
                refine (writeString_any wc.heap.size wc.heap.size _ _ wx (isBuilder_below HBL.out hbx) (by
                  simp only [List.length_append, List.length_cons, List.length_nil] at hls ⊢
                  omega) hBx.size).mono ?_
                rintro e w' ⟨q, rfl, h1, h2⟩
                exact ⟨q, rfl, h1, hBx.trans h2⟩
              obtain ⟨-, pa, pc, rfl, -⟩ := hi
              obtain ⟨kb, hkb⟩ : ∃ kb, kb = S z.kind := ⟨_, rfl⟩
              rw [← hkb] at g1 CS
              clear hv3 hst3 ha3 hze hmem het hst hls hlb hsm hsv hsf hl HBL hkb
              go_wp2_with fail
              refine (CS.out _ (below1 wr _)).mono ?_
              rintro e w2 ⟨rfl, hB2⟩
              clear CS
              go_wp2_with fail
              refine (CW.out _ hB2).mono ?_
              rintro e w3 ⟨q, rfl, hbw, hBw2⟩
              have HX : Hid (Bld wc.heap.size ((ended (P.vars.map lineVar) ++ ended (P.funs.map (lineFun P))) ++ ended ((P.stmts.take (k + 1)).map (lineStmt P))) w3 ∧ Below wc.heap.size wc w3) := ⟨hbw, hBw2⟩
              clear hbw hBw2 CW hB2
              go_wp2_with fail
              go_roundw
              case rel => exact ⟨k + 1, hlt, by go_num, HX.out.2, HX.out.1⟩
              case measure => simp [intOf]; omega
            · have HF : Hid (Bld wc.heap.size (textP P) wr) := by
                show Bld wc.heap.size (textP P) wr
                have := HBL.out
                rwa [show k = P.stmts.length by rw [HN.out.2.2]; omega, List.take_length] at this
              clear HBL
              go_wp2_with fail
              refine (Tryz.Builder_String_any wc.heap.size wc.heap.size (textP P) wr HF.out hB.size).mono ?_
              rintro e w2 ⟨rfl, hB2⟩
              have HX : Hid (T = ⟨(textP P).toArray⟩) := HT.out
              obtain ⟨U, hU⟩ : ∃ U : ByteArray, U = ⟨(textP P).toArray⟩ := ⟨_, rfl⟩
              rw [← hU] at HX ⊢
              have hBx : Below w.heap.size w w2 := HM.out.bel.trans ((hB.trans hB2).mono HM.out.bel.size)
              clear hU HT hB2
              go_wp2_with fail
              go_ret
              exact ⟨by rw [HX.out]; rfl, hBx⟩
end Go.Proofs.YtakmmpbkojhmhaaGreatDoor
