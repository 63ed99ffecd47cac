/-
  The document's SetsFault, by a contract.
-/
import Derived.Test.YtfajpkdpnpdfkaaGreatDoorGBM
import Derived.Test.YtfajpkdpnpdfkaaGreatDoorGCM
import Derived.Test.YtfajpkdpnpdfkaaGreatDoorXFM
import Derived.Test.YtfajpkdpnpdfkaaGreatDoorRefAM
namespace Go.Proofs.YtfajpkdpnpdfkaaGreatDoor
open Go.RowKit Go.Extern.Stop Go.Stop Go.Extern

/-- The document's error of no error, and of an error with its place. -/
def codeF : ErrD → Int
  | none => 0
  | some (c, _) => (c : Int) + 1
def placeF : ErrD → Int
  | none => -1
  | some (_, i) => i
theorem bareD (n : Int) (w : World) : Calls Tryz.prog 37 #[.int .i64 n] w fun e w' => e = .returned (.agg #[.int .i64 n, .int .i64 (-1)]) ∧ Below w.heap.size w w' := by
  go_enter Tryz.func37, Tryz.ntmps37
  go_wp2_with fail
  refine bodyPost_ret (v := .agg #[.int .i64 n, .int .i64 (-1)]) (by simp [results, Tryz.results37, go_sem]) rfl ?_
  exact ⟨rfl, below1 _ _⟩
theorem fineD (w : World) : Calls Tryz.prog 43 #[] w fun e w' => e = .returned (.agg #[.int .i64 0, .int .i64 (-1)]) ∧ Below w.heap.size w w' := by
  go_enter Tryz.func43, Tryz.ntmps43
  go_wp2_with fail
  refine bodyPost_ret (v := .agg #[.int .i64 0, .int .i64 (-1)]) (by simp [results, Tryz.results43, go_sem]) rfl ?_
  exact ⟨rfl, below1 _ _⟩
abbrev zeroD : Obj := .cells #[.int .i64 0, .int .i64 0] 34
theorem res_fD {w : World} {r : Nat} {a b : Value} {T : TypeId} (h : w.heap[r]? = some (.cells #[a, b] T (0, 0))) (x0 x1 : Value) : ((w.setCell ⟨r, 0, none⟩ x0).setCell ⟨r, 1, none⟩ x1).cell? ⟨r, 0, none⟩ = some x0 ∧ ((w.setCell ⟨r, 0, none⟩ x0).setCell ⟨r, 1, none⟩ x1).cell? ⟨r, 1, none⟩ = some x1 := by
  have h1 := set_block _ _ 0 _ _ _ h x0
  have h2 := set_block _ _ 1 _ _ _ h1 x1
  exact ⟨by rw [Lib.cell_of_heap h2]; rfl, by rw [Lib.cell_of_heap h2]; rfl⟩
/-- The document's error of a set by itself. -/
def fstE (zs : List Int) : Int := if !inBb zs then 2 else if !riseb zs then 10 else 0
theorem refSetError_any (zs : List Int) (v : Value) (w : World) (hm : zs.length ≤ 1000000) (h : IsInts w v zs) :
    Calls Tryz.prog 49 #[v] w fun e w' => e = .returned (.int .i64 (fstE zs)) ∧ Below w.heap.size w w' := by
  unfold fstE
  by_cases h1 : InB zs
  · have b1 : inBb zs = true := (inBb_iff zs).2 h1
    by_cases h2 : Rise zs
    · have b2 : riseb zs = true := (riseb_iff zs).2 h2
      rw [b1, b2]
      exact refErr_ok zs v w hm h h1 h2
    · have b2 : riseb zs = false := by
        cases e : riseb zs with
        | true => exact absurd ((riseb_iff zs).1 e) h2
        | false => rfl
      rw [b1, b2]
      exact refErr_order zs v w hm h h1 h2
  · have b1 : inBb zs = false := by
      cases e : inBb zs with
      | true => exact absurd ((inBb_iff zs).1 e) h1
      | false => rfl
    rw [b1]
    exact refErr_bound zs v w hm h h1
theorem fstE_cases (M : Int) (zs : List Int) : (fstE zs = 0 ∧ inBb zs = true ∧ riseb zs = true ∧ oneE M zs = if lastTooB M zs then some 1 else none) ∨ (∃ c : Nat, fstE zs = (c : Int) + 1 ∧ oneE M zs = some c) := by
  unfold fstE oneE
  cases inBb zs <;> cases riseb zs
  · exact Or.inr ⟨1, rfl, rfl⟩
  · exact Or.inr ⟨1, rfl, rfl⟩
  · exact Or.inr ⟨9, rfl, rfl⟩
  · exact Or.inl ⟨rfl, rfl, rfl, rfl⟩
theorem last_none {M : Int} {zs : List Int} (h : ∀ j, j < zs.length → zs.getD j 0 < M) : lastTooB M zs = false := by
  unfold lastTooB
  by_cases hz : 0 < zs.length
  · have := h (zs.length - 1) (by omega)
    simp only [Bool.and_eq_false_iff, decide_eq_false_iff_not]
    exact Or.inr (Int.not_le.2 this)
  · simp only [Bool.and_eq_false_iff, decide_eq_false_iff_not]
    exact Or.inl hz
theorem last_some {M : Int} {zs : List Int} (h2 : riseb zs = true) (j : Nat) (hj : j < zs.length) (h : M ≤ zs.getD j 0) : lastTooB M zs = true := by
  have hr := (riseb_iff zs).1 h2
  have key : ∀ d, j + d < zs.length → zs.getD j 0 ≤ zs.getD (j + d) 0 := by
    intro d
    induction d with
    | zero => intro _; exact Int.le_refl _
    | succ d ih =>
      intro hd
      have := hr (j + d) (by omega)
      have := ih (by omega)
      rw [show j + (d + 1) = j + d + 1 by omega]
      omega
  have := key (zs.length - 1 - j) (by omega)
  rw [show j + (zs.length - 1 - j) = zs.length - 1 by omega] at this
  unfold lastTooB
  simp only [Bool.and_eq_true, decide_eq_true_eq]
  exact ⟨by omega, by omega⟩

set_option maxRecDepth 100000 in
set_option maxHeartbeats 8000000 in
theorem refSetsFault_any (P : ProgD) (v1 v2 v3 hv : Value) (hs : List (List Int)) (w : World) (hS : SmallP P) (hck : checkE P = none) (h : IsProg w v1 v2 v3 P) (hH : IsSets w hv hs) (hn : hs.length ≤ 1000000) (hl : ∀ j, j < hs.length → (hs.getD j []).length ≤ 1000000) :
    Calls Tryz.prog 17 #[.agg #[v1, v2, v3], hv] w fun e w' => e = .returned (.agg #[.int .i64 (codeF (consE P hs)), .int .i64 (placeF (consE P hs))]) ∧ Below w.heap.size w w' := by
  have H : Hid (IsProg w v1 v2 v3 P) := h
  obtain ⟨⟨a1, c1, rfl, -, -⟩, ⟨a2, c2, rfl, -, -⟩, ⟨a3, c3, rfl, -, -⟩⟩ := h
  obtain ⟨ha, hc, rfl, hrow⟩ := hH
  obtain ⟨n1, hn1⟩ : ∃ m, m = P.vars.length := ⟨_, rfl⟩
  obtain ⟨n2, hn2⟩ : ∃ m, m = P.funs.length := ⟨_, rfl⟩
  obtain ⟨n3, hn3⟩ : ∃ m, m = P.stmts.length := ⟨_, rfl⟩
  obtain ⟨n, hnn⟩ : ∃ m, m = hs.length := ⟨_, rfl⟩
  obtain ⟨M, hM⟩ : ∃ M, M = places P P.stmts.length := ⟨_, rfl⟩
  obtain ⟨CE, hCE⟩ : ∃ z, z = codeF (consE P hs) := ⟨_, rfl⟩
  obtain ⟨PE, hPE⟩ : ∃ z, z = placeF (consE P hs) := ⟨_, rfl⟩
  have HCK : Hid (checkE P = none) := hck
  have HN : Hid (n2 = P.funs.length ∧ n = hs.length ∧ M = places P P.stmts.length ∧ CE = codeF (consE P hs) ∧ PE = placeF (consE P hs)) := ⟨hn2, hnn, hM, hCE, hPE⟩
  have hMb : M ≤ 200 := by
    obtain ⟨q1, q2, q3⟩ := right_small hck
    have := places_le P P.stmts.length
    omega
  have hn2b : n2 ≤ 8 := by rw [hn2]; exact (right_small hck).2.2
  rw [← hCE, ← hPE]
  have KN : Hid (∀ wx, Below w.heap.size w wx → Calls Tryz.prog 48 #[.agg #[.slice a1 n1 c1, .slice a2 n2 c2, .slice a3 n3 c3]] wx fun e w' => e = .returned (.int .i64 (M : Int)) ∧ Below wx.heap.size wx w') := fun wx hb => by
    have := refNodes_any P _ _ _ wx hS (H.out.below hb)
    rw [hM, hn1, hn2, hn3]
    exact this
  rw [← hn1, ← hn2, ← hn3, ← hnn]
  rw [← hnn] at hn hl hrow
  have KS : Hid (∀ wx, Below w.heap.size w wx → ∀ j, j < n → ∃ b o xa xc, ha = some ⟨b, o, none⟩ ∧ wx.cell? ⟨b, o + j, none⟩ = some (.slice xa (hs.getD j []).length xc) ∧ IsInts wx (.slice xa (hs.getD j []).length xc) (hs.getD j []) ∧ Calls Tryz.prog 49 #[.slice xa (hs.getD j []).length xc] wx fun e w' => e = .returned (.int .i64 (fstE (hs.getD j []))) ∧ Below wx.heap.size wx w') := fun wx hwx j hj => by
    obtain ⟨b, o, x, e1, e2, e3⟩ := hrow j hj
    obtain ⟨xa, xc, rfl⟩ := isInts_form e3
    exact ⟨b, o, xa, xc, e1, cell_keep hwx e2, e3.below hwx, refSetError_any _ _ wx (hl j hj) (e3.below hwx)⟩
  have KB : Hid (∀ wx, Calls Tryz.prog 37 #[.int .i64 3] wx fun e w' => e = .returned (.agg #[.int .i64 3, .int .i64 (-1)]) ∧ Below wx.heap.size wx w') := fun wx => bareD 3 wx
  have KF : Hid (∀ wx, Calls Tryz.prog 43 #[] wx fun e w' => e = .returned (.agg #[.int .i64 0, .int .i64 (-1)]) ∧ Below wx.heap.size wx w') := fun wx => fineD wx
  obtain ⟨W, hW⟩ : ∃ W, W = (w.alloc (.cells #[.slice a1 n1 c1, .slice a2 n2 c2, .slice a3 n3 c3] 26)).alloc zeroD := ⟨_, rfl⟩
  have hBW : Below w.heap.size w W := by rw [hW]; exact (below1 w _).alloc (by simp) _
  have HZ : Hid (W.heap[w.heap.size + 1]? = some (.cells #[.int .i64 0, .int .i64 0] 34 (0, 0))) := by
    show _ = _
    rw [hW]
    have := heap_new (w.alloc (.cells #[.slice a1 n1 c1, .slice a2 n2 c2, .slice a3 n3 c3] 26)) zeroD
    simpa using this
  have HX : Hid (Box3 W w.heap.size (.slice a1 n1 c1) (.slice a2 n2 c2) (.slice a3 n3 c3)) := by
    have h0 : (w.alloc (.cells #[.slice a1 n1 c1, .slice a2 n2 c2, .slice a3 n3 c3] 26)).heap[w.heap.size]? = some (.cells #[.slice a1 n1 c1, .slice a2 n2 c2, .slice a3 n3 c3] 26) := heap_new w _
    have h1 : W.heap[w.heap.size]? = some (.cells #[.slice a1 n1 c1, .slice a2 n2 c2, .slice a3 n3 c3] 26) := by
      rw [hW]; exact block_keep (below1 _ _) h0
    refine ⟨?_, ?_, ?_⟩ <;> (rw [Lib.cell_of_heap h1]; rfl)
  have KN0 : Hid (Calls Tryz.prog 48 #[.agg #[.slice a1 n1 c1, .slice a2 n2 c2, .slice a3 n3 c3]] W fun e w' => e = .returned (.int .i64 (M : Int)) ∧ Below W.heap.size W w') := KN.out W hBW
  rw [hW] at KN0
  have HL : Hid (∀ j, j < n → (hs.getD j []).length ≤ 1000000) := hl
  clear hn1 hn2 hn3 hnn hM hCE hPE hck hS hrow hl
  go_enter Tryz.func17, Tryz.ntmps17
  go_wp2_with fail
  refine KN0.out.mono ?_
  rintro e w1 ⟨rfl, hB1⟩
  rw [← hW] at hB1
  clear KN0 hW
  have hB1w : Below w.heap.size w w1 := hBW.trans (hB1.mono hBW.size)
  obtain ⟨p0, p1, p2⟩ := HX.out.below hB1
  have HZ1 : Hid (w1.heap[w.heap.size + 1]? = some (.cells #[.int .i64 0, .int .i64 0] 34 (0, 0))) := block_keep hB1 HZ.out
  clear hB1 HX HZ
  by_cases hlen : n = M
  · subst hlen
    have HO : Hid (CE = codeF (setsE ((n + n2 : Nat) : Int) 0 hs) ∧ PE = placeF (setsE ((n + n2 : Nat) : Int) 0 hs)) := by
      have : consE P hs = setsE ((n + n2 : Nat) : Int) 0 hs := by
        unfold consE
        rw [HCK.out]
        dsimp only
        rw [if_pos (by rw [← HN.out.2.1, ← HN.out.2.2.1]), ← HN.out.2.2.1, ← HN.out.1]
      show _ ∧ _
      rw [HN.out.2.2.2.1, HN.out.2.2.2.2, this]
      exact ⟨rfl, rfl⟩
    have HW1 : Hid (Below w.heap.size w w1.drew) := hB1w.drew
    have HZ1 : Hid (w1.drew.heap[w.heap.size + 1]? = some (.cells #[.int .i64 0, .int .i64 0] 34 (0, 0))) := HZ1.out
    go_upto_region 3 with fail
    go_region_held3 (fun wx => Below w.heap.size w wx ∧ Below w1.heap.size w1 wx ∧ wx.cell? ⟨w.heap.size, 0, none⟩ = some (.slice a1 n1 c1) ∧ wx.cell? ⟨w.heap.size, 1, none⟩ = some (.slice a2 n2 c2) ∧ wx.cell? ⟨w.heap.size, 2, none⟩ = some (.slice a3 n3 c3))
      ((go_split_ands; first | exact ⟨HW1.out, (Below.refl _ _).drew, p0, p1, p2⟩ | exact ⟨HW1.out.trans (hb8.mono HW1.out.size), (Below.refl _ _).drew.trans hb8, cell_keep hb8 p0, cell_keep hb8 p1, cell_keep hb8 p2⟩))
      ((go_at_call 48; refine (KN.out _ ?_).mono ?_; (go_split_ands; assumption); rintro e w8 ⟨rfl, hb8⟩))
    have HB8 : Hid (Below w.heap.size w w8 ∧ w8.heap[w.heap.size + 1]? = some (.cells #[.int .i64 0, .int .i64 0] 34 (0, 0))) := ⟨HW1.out.trans (hb8.mono HW1.out.size), block_keep hb8 HZ1.out⟩
    rw [show IntKind.i64.wrap ((n : Int) + (n2 : Int)) = ((n + n2 : Nat) : Int) by rw [IntKind.wrap_i64]; omega]
    obtain ⟨T, hT⟩ : ∃ T : Int, T = ((n + n2 : Nat) : Int) := ⟨_, rfl⟩
    rw [← hT] at HO ⊢
    clear hT p0 p1 p2 hb8 HW1 HZ1 KN hBW hB1w
    go_wp2_with fail
    go_loopw [6] (fun t wr => ∃ k : Nat, k ≤ n ∧ t = .int .i64 k ∧ setsE T k (hs.drop k) = setsE T 0 hs ∧ Below w.heap.size w wr ∧ wr.heap[w.heap.size + 1]? = some (.cells #[.int .i64 0, .int .i64 0] 34 (0, 0))) (fun t _ => (n - intOf t).toNat)
    case atStart => exact ⟨0, Nat.zero_le _, rfl, rfl, HB8.out⟩
    case round =>
      obtain ⟨k, hk, rfl, heq, hwr, hzr⟩ := hrel
      by_cases hlt : k < n
      · obtain ⟨b, o, xa, xc, rfl, e0, e1, hcs⟩ := KS.out wr hwr k hlt
        have hki : (k : Int) < n := by omega
        have hstep := setsE_drop T hs k (by rw [← HN.out.2.1]; exact hlt)
        rw [heq] at hstep
        have HST : Hid (setsE T 0 hs = atE k (oneE T (hs.getD k [])) (setsE T (k + 1) (hs.drop (k + 1)))) := hstep
        obtain ⟨zs, hzs⟩ : ∃ z, z = hs.getD k [] := ⟨_, rfl⟩
        rw [← hzs] at e0 e1 hcs HST
        obtain ⟨m, hm⟩ : ∃ m, m = zs.length := ⟨_, rfl⟩
        have HM : Hid (m = zs.length) := hm
        have hmb : m ≤ 1000000 := by rw [hm, hzs]; exact HL.out k hlt
        rw [← hm] at e0 e1 hcs
        obtain ⟨F, hF⟩ : ∃ F, F = fstE zs := ⟨_, rfl⟩
        have HFC : Hid ((F = 0 ∧ inBb zs = true ∧ riseb zs = true ∧ oneE T zs = if lastTooB T zs then some 1 else none) ∨ (∃ c : Nat, F = (c : Int) + 1 ∧ oneE T zs = some c)) := by
          show _ ∨ _
          rw [hF]; exact fstE_cases T zs
        rw [← hF] at hcs
        have HCS : Hid _ := hcs
        have HR : Hid (Below w.heap.size w wr ∧ wr.heap[w.heap.size + 1]? = some (.cells #[.int .i64 0, .int .i64 0] 34 (0, 0)) ∧ IsInts wr (.slice xa m xc) zs) := ⟨hwr, hzr, e1⟩
        have E0 : Hid (wr.cell? ⟨b, o + k, none⟩ = some (.slice xa m xc)) := e0
        clear heq hstep hzs hm hF hcs e1 hwr hzr HB8
        go_wp2_with fail
        refine Calls.mono HCS.out ?_
        rintro e w4 ⟨rfl, hB4⟩
        have HR4 : Hid (Below w.heap.size w w4 ∧ w4.heap[w.heap.size + 1]? = some (.cells #[.int .i64 0, .int .i64 0] 34 (0, 0)) ∧ IsInts w4 (.slice xa m xc) zs) := ⟨HR.out.1.trans (hB4.mono HR.out.1.size), block_keep hB4 HR.out.2.1, HR.out.2.2.below hB4⟩
        replace e0 := cell_keep hB4 E0.out
        clear HR E0 HCS hB4
        go_wp2_with fail
        go_loopw [7, 8] (fun te tk wq => ∃ (q : Nat) (z : Int), q ≤ m ∧ tk = .int .i64 q ∧ te = .int .i64 z ∧ wq = w4 ∧ ((z = 0 ∧ F = 0 ∧ ∀ j, j < q → zs.getD j 0 < T) ∨ (∃ c : Nat, z = (c : Int) + 1 ∧ c < 20 ∧ oneE T zs = some c))) (fun _ tk _ => (m - intOf tk).toNat)
        case atStart =>
          refine ⟨0, F, Nat.zero_le _, rfl, rfl, rfl, ?_⟩
          rcases HFC.out with ⟨f0, -, -, -⟩ | ⟨c, f0, f1⟩
          · exact Or.inl ⟨f0, f0, fun j hj => absurd hj (Nat.not_lt_zero _)⟩
          · refine Or.inr ⟨c, f0, ?_, f1⟩
            unfold oneE at f1
            split at f1
            · injection f1 with f1; omega
            · split at f1
              · injection f1 with f1; omega
              · split at f1
                · injection f1 with f1; omega
                · cases f1
        case round =>
          obtain ⟨q, z, hq, rfl, rfl, hwq, hcase⟩ := hrel
          obtain rfl := hwq.symm
          clear hwq
          have hqm : (q : Int) ≤ m := by omega
          rcases hcase with ⟨rfl, hF0, hall⟩ | ⟨c, rfl, hc20, hone⟩
          · have HA : Hid (F = 0 ∧ ∀ j, j < q → zs.getD j 0 < T) := ⟨hF0, hall⟩
            clear hF0 hall
            by_cases hlq : q < m
            · obtain ⟨b2, o2, rfl, g0⟩ := ints_at HR4.out.2.2 HM.out q hlq
              have hqi : (q : Int) < m := by omega
              obtain ⟨x, hx⟩ : ∃ x, x = zs.getD q 0 := ⟨_, rfl⟩
              rw [← hx] at g0
              have HXX : Hid (x = zs.getD q 0) := hx
              clear hx
              by_cases hge : T ≤ x
              · go_wp2_with fail
                go_roundw
                case rel =>
                  refine ⟨q + 1, 2, hlq, by go_num, rfl, trivial, Or.inr ⟨1, rfl, by omega, ?_⟩⟩
                  rcases HFC.out with ⟨-, -, f2, f3⟩ | ⟨c, f0, -⟩
                  · rw [f3, last_some f2 q (by rw [← HM.out]; exact hlq) (by rw [← HXX.out]; exact hge)]; rfl
                  · exfalso; have := HA.out.1; omega
                case measure => simp [intOf]; omega
              · have hge' : x < T := by omega
                go_wp2_with fail
                go_roundw
                case rel =>
                  refine ⟨q + 1, 0, hlq, by go_num, rfl, trivial, Or.inl ⟨rfl, HA.out.1, fun j hj => ?_⟩⟩
                  rcases Nat.lt_succ_iff_lt_or_eq.1 hj with g | g
                  · exact HA.out.2 j g
                  · rw [g, ← HXX.out]; exact hge'
                case measure => simp [intOf]; omega
            · have hqn : q = m := by omega
              subst hqn
              have HNN : Hid (setsE T (k + 1) (hs.drop (k + 1)) = setsE T 0 hs) := by
                show _ = _
                rcases HFC.out with ⟨-, -, f2, f3⟩ | ⟨c, f0, -⟩
                · rw [HST.out, f3, last_none (by rw [← HM.out]; exact HA.out.2)]; rfl
                · exfalso; have := HA.out.1; omega
              go_wp2_with fail
              go_roundw
              case rel => exact ⟨k + 1, hlt, by go_num, HNN.out, HR4.out.1, HR4.out.2.1⟩
              case measure => simp [intOf]; omega
          · have HQ : Hid (CE = (c : Int) + 1 ∧ PE = (k : Int)) := by
              show _ ∧ _
              rw [HO.out.1, HO.out.2, HST.out, hone]
              exact ⟨rfl, rfl⟩
            have hc0 : (0 : Int) < (c : Int) + 1 := by omega
            have hc1 : ¬ ((c : Int) + 1 = 0) := by omega
            have z3 : w4.cell? ⟨w.heap.size + 1, 0, none⟩ = some (.int .i64 0) := by rw [Lib.cell_of_heap HR4.out.2.1]; rfl
            have z4 : w4.cell? ⟨w.heap.size + 1, 1, none⟩ = some (.int .i64 0) := by rw [Lib.cell_of_heap HR4.out.2.1]; rfl
            have y3 := frozen_of_block HR4.out.2.1 0
            have y4 := frozen_of_block HR4.out.2.1 1
            clear hone
            by_cases hlq : q < m
            · have hqi : (q : Int) < m := by omega
              go_wp2_with fail
              obtain ⟨rr0, rr1⟩ := res_fD HR4.out.2.1 (.int .i64 ((c : Int) + 1)) (.int .i64 (k : Int))
              refine bodyPost_ret (v := .agg #[.int .i64 ((c : Int) + 1), .int .i64 (k : Int)]) (by simp [results, Tryz.results17, go_sem, rr0, rr1]) rfl ?_
              exact ⟨by rw [HQ.out.1, HQ.out.2], (HR4.out.1.setCell (by simp) _).setCell (by simp) _⟩
            · have hqi : ¬ (q : Int) < m := by omega
              go_wp2_with fail
              obtain ⟨rr0, rr1⟩ := res_fD HR4.out.2.1 (.int .i64 ((c : Int) + 1)) (.int .i64 (k : Int))
              refine bodyPost_ret (v := .agg #[.int .i64 ((c : Int) + 1), .int .i64 (k : Int)]) (by simp [results, Tryz.results17, go_sem, rr0, rr1]) rfl ?_
              exact ⟨by rw [HQ.out.1, HQ.out.2], (HR4.out.1.setCell (by simp) _).setCell (by simp) _⟩
      · have hkn : k = n := by omega
        subst hkn
        have HQ : Hid (CE = 0 ∧ PE = -1) := by
          show _ ∧ _
          rw [HO.out.1, HO.out.2, ← heq, List.drop_of_length_le (by rw [HN.out.2.1]; exact Nat.le_refl _)]
          exact ⟨rfl, rfl⟩
        have HR : Hid (Below w.heap.size w wr ∧ wr.heap[w.heap.size + 1]? = some (.cells #[.int .i64 0, .int .i64 0] 34 (0, 0))) := ⟨hwr, hzr⟩
        clear heq hwr hzr HB8
        go_wp2_with fail
        refine (KF.out _).mono ?_
        rintro e w9 ⟨rfl, hb9⟩
        have HR9 : Hid (Below w.heap.size w w9 ∧ w9.heap[w.heap.size + 1]? = some (.cells #[.int .i64 0, .int .i64 0] 34 (0, 0))) := ⟨HR.out.1.trans (hb9.mono HR.out.1.size), block_keep hb9 HR.out.2⟩
        have z3 : w9.cell? ⟨w.heap.size + 1, 0, none⟩ = some (.int .i64 0) := by rw [Lib.cell_of_heap HR9.out.2]; rfl
        have z4 : w9.cell? ⟨w.heap.size + 1, 1, none⟩ = some (.int .i64 0) := by rw [Lib.cell_of_heap HR9.out.2]; rfl
        have y3 := frozen_of_block HR9.out.2 0
        have y4 := frozen_of_block HR9.out.2 1
        clear hb9
        go_wp2_with fail
        obtain ⟨rr0, rr1⟩ := res_fD HR9.out.2 (.int .i64 0) (.int .i64 (-1))
        refine bodyPost_ret (v := .agg #[.int .i64 0, .int .i64 (-1)]) (by simp [results, Tryz.results17, go_sem, rr0, rr1]) rfl ?_
        exact ⟨by rw [HQ.out.1, HQ.out.2], (HR9.out.1.setCell (by simp) _).setCell (by simp) _⟩
  · have hlen' : ¬ ((n : Int) = (M : Int)) := by omega
    have HO : Hid (CE = 3 ∧ PE = -1) := by
      show _ ∧ _
      rw [HN.out.2.2.2.1, HN.out.2.2.2.2]
      unfold consE
      rw [HCK.out]
      dsimp only
      rw [if_neg (by rw [← HN.out.2.1, ← HN.out.2.2.1]; exact hlen)]
      exact ⟨rfl, rfl⟩
    go_wp2_with fail
    refine (KB.out _).mono ?_
    rintro e w9 ⟨rfl, hb9⟩
    have HR9 : Hid (Below w.heap.size w w9 ∧ w9.heap[w.heap.size + 1]? = some (.cells #[.int .i64 0, .int .i64 0] 34 (0, 0))) := ⟨hB1w.trans (hb9.mono hB1w.size), block_keep hb9 HZ1.out⟩
    have z3 : w9.cell? ⟨w.heap.size + 1, 0, none⟩ = some (.int .i64 0) := by rw [Lib.cell_of_heap HR9.out.2]; rfl
    have z4 : w9.cell? ⟨w.heap.size + 1, 1, none⟩ = some (.int .i64 0) := by rw [Lib.cell_of_heap HR9.out.2]; rfl
    have y3 := frozen_of_block HR9.out.2 0
    have y4 := frozen_of_block HR9.out.2 1
    clear hb9 HZ1 p0 p1 p2
    go_wp2_with fail
    obtain ⟨rr0, rr1⟩ := res_fD HR9.out.2 (.int .i64 3) (.int .i64 (-1))
    refine bodyPost_ret (v := .agg #[.int .i64 3, .int .i64 (-1)]) (by simp [results, Tryz.results17, go_sem, rr0, rr1]) rfl ?_
    exact ⟨by rw [HO.out.1, HO.out.2], (HR9.out.1.setCell (by simp) _).setCell (by simp) _⟩
end Go.Proofs.YtfajpkdpnpdfkaaGreatDoor
