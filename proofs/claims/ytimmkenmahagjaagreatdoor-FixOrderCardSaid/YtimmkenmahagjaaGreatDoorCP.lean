/-
  Package cons: slices.Compact at edges, by a contract.
-/
import Derived.Test.YtimmkenmahagjaaGreatDoorCD
import Derived.Test.YtimmkenmahagjaaGreatDoorCS
import Derived.Shelf.SlicesE.Equal
import Derived.Laws.StructEq
import Derived.BigQuiet
namespace Go.Proofs.YtimmkenmahagjaaGreatDoor
open Go.RowKit Go.Extern.Stop Go.Stop Go.Extern

/-- Neighbours that are equal stand once: of the first m. -/
def ddE (es : List Pair) : Nat → List Pair
  | 0 => []
  | m + 1 => ddE es m ++ (if m = 0 ∨ es.getD m default ≠ es.getD (m - 1) default then [es.getD m default] else [])
theorem ddE_all (es : List Pair) (m : Nat) (hm : m ≤ es.length) (h : ∀ j, 1 ≤ j → j < m → es.getD j default ≠ es.getD (j - 1) default) : ddE es m = es.take m := by
  induction m with
  | zero => simp [ddE]
  | succ m ih =>
    unfold ddE
    rw [ih (by omega) (fun j h1 h2 => h j h1 (by omega)), take_snoc es default m (by omega)]
    by_cases e : m = 0
    · rw [if_pos (Or.inl e)]
    · rw [if_pos (Or.inr (h m (by omega) (by omega)))]
structure CmpI (es xs : List Pair) (kk q : Nat) : Prop where
  len : xs.length = es.length
  le : q ≤ es.length
  lt : kk < q
  pos : 1 ≤ kk
  got : xs.take kk = ddE es q
  rest : ∀ l, q - 1 ≤ l → xs.getD l default = es.getD l default
theorem CmpI.skip {es xs : List Pair} {kk q : Nat} (h : CmpI es xs kk q) (hq : q < es.length) (he : es.getD q default = es.getD (q - 1) default) : CmpI es xs kk (q + 1) := by
  refine ⟨h.len, hq, by have := h.lt; omega, h.pos, ?_, fun l hl => h.rest l (by omega)⟩
  unfold ddE
  rw [if_neg (by have := h.lt; rintro (e | e); omega; exact e he), List.append_nil]
  exact h.got
theorem CmpI.stay {es xs : List Pair} {kk q : Nat} (h : CmpI es xs kk q) (hq : q < es.length) (he : es.getD q default ≠ es.getD (q - 1) default) : CmpI es (xs.set kk (es.getD q default)) (kk + 1) (q + 1) := by
  have hk : kk < xs.length := by rw [h.len]; have := h.lt; omega
  refine ⟨by simpa using h.len, hq, by have := h.lt; omega, by omega, ?_, fun l hl => ?_⟩
  · unfold ddE
    rw [if_pos (Or.inr he), take_set_last _ _ _ hk, h.got]
  · rw [getD_set_otherE _ _ _ _ _ (by have := h.lt; omega)]
    exact h.rest l (by omega)
theorem CmpI.cnt {es xs : List Pair} {kk q : Nat} (h : CmpI es xs kk q) : (ddE es q).length = kk := by
  rw [← h.got, List.length_take, h.len]
  have := h.le; have := h.lt; omega

def eqE (p q : Pair) : Bool := p.1 == q.1 && p.2 == q.2
theorem eqE_iff (p q : Pair) : eqE p q = true ↔ p = q := by
  obtain ⟨a, b⟩ := p; obtain ⟨c, d⟩ := q
  simp [eqE]
theorem run_eqInE (p q : Pair) (w : World) : (Op.equalIn 10000 TE (.agg #[.int .i64 p.1, .int .i64 p.2]) (.agg #[.int .i64 q.1, .int .i64 q.2])).run Tryz.prog w = .ok (eqE p q) w := by
  have u3 := Tryz.underlying3
  have a3 := Tryz.isAgg3
  have z3 := Tryz.sizeOf3
  have hS : Tryz.prog.underlying TE = some (.struct (Tryz.prog.fieldsOf TE)) := by kernel_rfl
  have hp : Tryz.prog.stoodInHeld TE = false := by kernel_rfl
  rw [show (10000 : Nat) = 9999 + 1 from rfl, run_equalIn_agg w 9999 TE _ _ hS hp]
  simp only [Program.fieldsOf, Tryz.underlying58]
  go_simp
  unfold eqE
  by_cases h1 : p.fst = q.fst <;> by_cases h2 : p.snd = q.snd <;> simp [h1, h2]
theorem run_guardE (op : BinOp) (a b : Operand) (p q : Pair) (w : World) : Sem.run Tryz.prog (eqGuard op TE a b (.agg #[.int .i64 p.1, .int .i64 p.2]) (.agg #[.int .i64 q.1, .int .i64 q.2])) w = .ok () w := run_eqGuard_agg w op TE a b _ _ (by kernel_rfl)

set_option maxRecDepth 100000 in
set_option maxHeartbeats 8000000 in
theorem compactE_any (es : List Pair) (w : World) (B g cap : Nat) (hn : es.length ≤ 1000000) (hcap : es.length ≤ cap) (hB : B ≤ g) (hg : g < w.heap.size) (h : RowE w g es) :
    Calls Tryz.prog 118 #[.slice (some ⟨g, 0, none⟩) es.length cap] w fun e w' => e = .returned (.slice (some ⟨g, 0, none⟩) (ddE es es.length).length cap) ∧ RowE w' g (ddE es es.length) ∧ Below B w w' := by
  have H : Hid (RowE w g es) := h
  obtain ⟨n, hnn⟩ : ∃ n, n = es.length := ⟨_, rfl⟩
  have HN : Hid (n = es.length ∧ B ≤ g) := ⟨hnn, hB⟩
  rw [← hnn] at hn hcap ⊢
  clear h hnn hB
  by_cases h2 : n < 2
  · have HX : Hid (ddE es n = es) := by
      show _ = _
      have := ddE_all es es.length (Nat.le_refl _) (fun j h1 h2' => absurd h2' (by have := HN.out.1; omega))
      rw [HN.out.1, this, List.take_length]
    have h2i : (n : Int) < 2 := by omega
    go_enter Tryz.func118, Tryz.ntmps118
    go_wp2_with fail
    go_ret
    exact ⟨by rw [HX.out, ← HN.out.1]; first | done | rfl, by rw [HX.out]; exact H.out, Below.refl _ _⟩
  · have h2i : ¬ (n : Int) < 2 := by omega
    go_enter Tryz.func118, Tryz.ntmps118
    go_wp2_with fail
    go_loopw [3] (fun t wr => ∃ k : Nat, 1 ≤ k ∧ k ≤ n ∧ t = .int .i64 k ∧ (∀ j, 1 ≤ j → j < k → es.getD j default ≠ es.getD (j - 1) default) ∧ RowE wr g es ∧ Below B w wr ∧ g < wr.heap.size) (fun t _ => (n - intOf t).toNat)
    case atStart => exact ⟨1, Nat.le_refl _, by omega, rfl, fun j h1 h2' => by omega, H.out, Below.refl _ _, hg⟩
    case round =>
      obtain ⟨k, hk1, hk, rfl, hall, hR, hwr, hgr⟩ := hrel
      by_cases hlt : k < n
      · obtain ⟨e0, e1, -, -⟩ := hR.pair k (by rw [← HN.out.1]; exact hlt)
        obtain ⟨d0, d1, -, -⟩ := hR.pair (k - 1) (by rw [← HN.out.1]; omega)
        have hki : (k : Int) < n := by omega
        have hkm : ((k - 1 : Nat) : Int) = (k : Int) - 1 := by omega
        obtain ⟨km, hkme⟩ : ∃ km, km = k - 1 := ⟨_, rfl⟩
        rw [← hkme] at d0 d1 hkm
        have hkmi : (km : Int) < n := by omega
        have hwrap : IntKind.i64.wrap ((k : Int) - 1) = (km : Int) := by rw [IntKind.wrap_i64]; omega
        have HEQ := run_eqInE (es.getD k default) (es.getD km default)
        have HGD := fun op a b => run_guardE op a b (es.getD k default) (es.getD km default)
        obtain ⟨D, hD⟩ : ∃ D, D = eqE (es.getD k default) (es.getD km default) := ⟨_, rfl⟩
        rw [← hD] at HEQ
        have HD : Hid (D = eqE (es.getD k default) (es.getD (k - 1) default)) := by show D = _; rw [hD, hkme]
        obtain ⟨x1, hx1⟩ : ∃ z, z = (es.getD k default).1 := ⟨_, rfl⟩
        obtain ⟨x2, hx2⟩ : ∃ z, z = (es.getD k default).2 := ⟨_, rfl⟩
        obtain ⟨y1, hy1⟩ : ∃ z, z = (es.getD km default).1 := ⟨_, rfl⟩
        obtain ⟨y2, hy2⟩ : ∃ z, z = (es.getD km default).2 := ⟨_, rfl⟩
        rw [← hx1] at e0 HEQ HGD
        rw [← hx2] at e1 HEQ HGD
        rw [← hy1] at d0 HEQ HGD
        rw [← hy2] at d1 HEQ HGD
        have HA : Hid (∀ j, 1 ≤ j → j < k → es.getD j default ≠ es.getD (j - 1) default) := hall
        have HR : Hid (RowE wr g es) := hR
        clear hD hx1 hx2 hy1 hy2 hkm hkme hall hR
        go_upto_region 6 with fail
        go_quiet (fail)
        generalize hwq : World.drewN wr _ = wq
        have hBq : Below wr.heap.size wr wq := by rw [← hwq]; exact below_drewN (Below.refl _ _) _
        have HRq : Hid (RowE wq g es ∧ Below B w wq) := by
          refine ⟨HR.out.below hBq, ?_⟩
          rw [← hwq]; exact below_drewN hwr _
        have hgq : g < wq.heap.size := Nat.lt_of_lt_of_le hgr hBq.size
        clear hwq hBq e0 e1 d0 d1 HEQ HGD
        cases D with
        | false =>
          go_wp2_with fail
          go_roundw
          case rel =>
            refine ⟨k + 1, by omega, hlt, by go_num, fun j h1 h2' => ?_, HRq.out.1, HRq.out.2, hgq⟩
            by_cases e : j = k
            · subst e
              intro q
              have := HD.out
              rw [(eqE_iff _ _).2 q] at this
              cases this
            · exact HA.out j h1 (by omega)
          case measure => simp [intOf]; omega
        | true =>
          have HI0 : Hid (CmpI es es k (k + 1)) := by
            have hle : k < es.length := by rw [← HN.out.1]; exact hlt
            refine ⟨rfl, hle, Nat.lt_succ_self _, hk1, ?_, fun _ _ => rfl⟩
            have he : es.getD k default = es.getD (k - 1) default := (eqE_iff _ _).1 HD.out.symm
            unfold ddE
            rw [if_neg (by rintro (e | e); omega; exact e he), List.append_nil]
            exact (ddE_all es k (by omega) HA.out).symm
          have hkn0 : (k : Int) ≤ n := by omega
          have hnc : (n : Int) ≤ cap := by omega
          have hknn : k ≤ n := by omega
          have hknc : k ≤ cap := by omega
          obtain ⟨m, hm⟩ : ∃ m, m = n - k := ⟨_, rfl⟩
          have hmk : k + m = n := by omega
          go_upto_region 8 with fail
          rw [← hm]
          clear hm HA
          go_wp2_with fail
          go_loopw [3, 5] (fun t3 t5 wr => ∃ (kk j : Nat) (xs : List Pair), t3 = .int .i64 kk ∧ t5 = .int .i64 j ∧ 1 ≤ j ∧ j ≤ m ∧ kk < k + j ∧ CmpI es xs kk (k + j) ∧ RowE wr g xs ∧ Below B w wr ∧ g < wr.heap.size) (fun _ t5 _ => (m - intOf t5).toNat)
          case atStart => exact ⟨k, 1, es, rfl, rfl, Nat.le_refl _, by omega, by omega, HI0.out, HRq.out.1, HRq.out.2, hgq⟩
          case round =>
            clear HI0 HRq
            obtain ⟨kk, j, xs, rfl, rfl, hj1, hj, hkj, hI, hR, hwr2, hgr2⟩ := hrel
            have hxl : xs.length = n := by rw [hI.len, ← HN.out.1]
            by_cases hlt2 : j < m
            · obtain ⟨e0, e1, -, -⟩ := hR.pair (k + j) (by omega)
              obtain ⟨d0, d1, -, -⟩ := hR.pair (k + j - 1) (by omega)
              rw [hI.rest (k + j) (by omega)] at e0 e1
              rw [hI.rest (k + j - 1) (Nat.le_refl _)] at d0 d1
              have hji : (j : Int) < m := by omega
              obtain ⟨jm, hjm⟩ : ∃ z, z = j - 1 := ⟨_, rfl⟩
              have hjj : k + j - 1 = k + jm := by omega
              rw [hjj, Nat.add_mul] at d0 d1
              rw [Nat.add_mul] at e0 e1
              have hjmi : (jm : Int) < m := by omega
              have hwrap2 : IntKind.i64.wrap ((j : Int) - 1) = (jm : Int) := by rw [IntKind.wrap_i64]; omega
              have HEQ := run_eqInE (es.getD (k + j) default) (es.getD (k + jm) default)
              have HGD := fun op a b => run_guardE op a b (es.getD (k + j) default) (es.getD (k + jm) default)
              obtain ⟨D, hD⟩ : ∃ D, D = eqE (es.getD (k + j) default) (es.getD (k + jm) default) := ⟨_, rfl⟩
              rw [← hD] at HEQ
              have HD2 : Hid (D = eqE (es.getD (k + j) default) (es.getD (k + j - 1) default)) := by show D = _; rw [hD, hjj]
              obtain ⟨x1, hx1⟩ : ∃ z, z = (es.getD (k + j) default).1 := ⟨_, rfl⟩
              obtain ⟨x2, hx2⟩ : ∃ z, z = (es.getD (k + j) default).2 := ⟨_, rfl⟩
              obtain ⟨y1, hy1⟩ : ∃ z, z = (es.getD (k + jm) default).1 := ⟨_, rfl⟩
              obtain ⟨y2, hy2⟩ : ∃ z, z = (es.getD (k + jm) default).2 := ⟨_, rfl⟩
              rw [← hx1] at e0 HEQ HGD
              rw [← hx2] at e1 HEQ HGD
              rw [← hy1] at d0 HEQ HGD
              rw [← hy2] at d1 HEQ HGD
              have HX12 : Hid (x1 = (es.getD (k + j) default).1 ∧ x2 = (es.getD (k + j) default).2) := ⟨hx1, hx2⟩
              have HR : Hid (RowE wr g xs ∧ CmpI es xs kk (k + j)) := ⟨hR, hI⟩
              have hje : k + j < es.length := by rw [← HN.out.1]; omega
              clear hD hx1 hx2 hy1 hy2 hjm hjj hR hI hxl
              go_upto_region 11 with fail
              go_quiet (fail)
              generalize hwq : World.drewN wr _ = wq
              have hBq : Below wr.heap.size wr wq := by rw [← hwq]; exact below_drewN (Below.refl _ _) _
              have HRq : Hid (RowE wq g xs ∧ Below B w wq) := by
                refine ⟨HR.out.1.below hBq, ?_⟩
                rw [← hwq]; exact below_drewN hwr2 _
              have hgq2 : g < wq.heap.size := Nat.lt_of_lt_of_le hgr2 hBq.size
              replace e0 := cell_keep hBq e0
              replace e1 := cell_keep hBq e1
              clear hwq hBq d0 d1 HEQ HGD
              cases D with
              | true =>
                go_wp2_with fail
                go_roundw
                case rel => exact ⟨kk, j + 1, xs, rfl, by go_num, by omega, hlt2, by omega, HR.out.2.skip hje ((eqE_iff _ _).1 HD2.out.symm), HRq.out.1, HRq.out.2, hgq2⟩
                case measure => simp [intOf]; omega
              | false =>
                have hne : es.getD (k + j) default ≠ es.getD (k + j - 1) default := fun q => by
                  have := HD2.out
                  rw [(eqE_iff _ _).2 q] at this
                  cases this
                obtain ⟨q0, q1, f0, f1⟩ := HRq.out.1.pair kk (by rw [HR.out.2.len]; omega)
                obtain ⟨q0v, hq0⟩ : ∃ v, v = (xs.getD kk default).1 := ⟨_, rfl⟩
                obtain ⟨q1v, hq1⟩ : ∃ v, v = (xs.getD kk default).2 := ⟨_, rfl⟩
                rw [← hq0] at q0
                rw [← hq1] at q1
                have hkki : (kk : Int) < n := by omega
                have HS : Hid (RowE (setE wq g kk (x1, x2)) g (xs.set kk (es.getD (k + j) default)) ∧ Below B w (setE wq g kk (x1, x2)) ∧ CmpI es (xs.set kk (es.getD (k + j) default)) (kk + 1) (k + (j + 1))) := by
                  refine ⟨?_, (HRq.out.2.setCell HN.out.2 _).setCell HN.out.2 _, HR.out.2.stay hje hne⟩
                  have := HRq.out.1.set kk (by rw [HR.out.2.len]; omega) (es.getD (k + j) default)
                  rw [HX12.out.1, HX12.out.2]
                  exact this
                have hgs : g < (setE wq g kk (x1, x2)).heap.size := by simpa using hgq2
                clear hq0 hq1 hne
                go_wp2_with fail
                go_roundw
                case rel => exact ⟨kk + 1, j + 1, xs.set kk (es.getD (k + j) default), by go_num, by go_num, by omega, hlt2, by omega, HS.out.2.2, HS.out.1, HS.out.2.1, hgs⟩
                case measure => simp [intOf]; omega
            · have hjm : j = m := by omega
              subst hjm
              have hcnt := hI.cnt
              have hgot := hI.got
              rw [hmk] at hcnt hgot
              have hcl := fun ty => run_clearE wr ty g (kk * 2) (n - kk) (cap - kk) (by omega) (fun t ht => by rw [(hR.pos (kk * 2 + t) (by omega)).1, List.getElem?_eq_getElem (by rw [ecells_len]; omega)]; rfl) (fun t ht => (hR.pos (kk * 2 + t) (by omega)).2)
              have HE : Hid (RowE (wr.setCells g (kk * 2) (List.replicate ((n - kk) * 2) (.int .i64 0))) g (ddE es n) ∧ Below B w (wr.setCells g (kk * 2) (List.replicate ((n - kk) * 2) (.int .i64 0))) ∧ (ddE es n).length = kk) := by
                refine ⟨?_, below_setCells hwr2 HN.out.2 _ _, hcnt⟩
                rw [← hgot]
                refine (hR.take kk).setCells _ _ ?_
                rw [hgot, hcnt]; exact Nat.le_refl _
              have hkc : kk ≤ cap := by omega
              have hkn2 : (kk : Int) ≤ n := by omega
              have hkn3 : kk ≤ n := by omega
              clear hcnt hgot hI hR hxl
              go_wp2_with fail
              go_ret
              exact ⟨by rw [HE.out.2.2]; rfl, HE.out.1, HE.out.2.1⟩
      · have hkn : k = n := by omega
        subst hkn
        have HX : Hid (ddE es k = es) := by
          show _ = _
          rw [ddE_all es k (by rw [← HN.out.1]; exact Nat.le_refl _) hall, HN.out.1, List.take_length]
        have HR : Hid (RowE wr g es) := hR
        clear hall hR
        go_wp2_with fail
        go_ret
        exact ⟨by rw [HX.out, ← HN.out.1]; first | done | rfl, by rw [HX.out]; exact HR.out, hwr⟩
end Go.Proofs.YtimmkenmahagjaaGreatDoor
