/-
  The document's StmtError, by a contract.
-/
import Derived.Test.YtdbcjeccmjpbiabDoorQB
namespace Go.Proofs.YtdbcjeccmjpbiabDoor
open Go.RowKit Go.Extern.Stop Go.Stop Go.Extern

def codeO : Option Nat → Int
  | none => 0
  | some i => (i : Int) + 1
def Box4 (w : World) (b : Nat) (v0 v1 v2 v3 : Value) : Prop := w.cell? ⟨b, 0, none⟩ = some v0 ∧ w.cell? ⟨b, 1, none⟩ = some v1 ∧ w.cell? ⟨b, 2, none⟩ = some v2 ∧ w.cell? ⟨b, 3, none⟩ = some v3
theorem Box4.below {w w' : World} {b : Nat} {v0 v1 v2 v3 : Value} (h : Box4 w b v0 v1 v2 v3) (hb : Below w.heap.size w w') : Box4 w' b v0 v1 v2 v3 := ⟨cell_keep hb h.1, cell_keep hb h.2.1, cell_keep hb h.2.2.1, cell_keep hb h.2.2.2⟩
theorem box4_new (w : World) (v0 v1 v2 v3 : Value) (t : TypeId) : Box4 (w.alloc (.cells #[v0, v1, v2, v3] t)) w.heap.size v0 v1 v2 v3 := ⟨by simp, by simp, by simp, by simp⟩

abbrev oKinds : Obj := .cells #[.string ⟨#[97, 100, 100, 114]⟩, .string ⟨#[99, 111, 112, 121]⟩, .string ⟨#[108, 111, 97, 100]⟩, .string ⟨#[115, 116, 111, 114, 101]⟩, .string ⟨#[110, 101, 119]⟩, .string ⟨#[102, 117, 110]⟩, .string ⟨#[99, 97, 108, 108]⟩] 9
theorem kinds_is (w : World) : IsStrs (w.alloc oKinds) (.slice (some ⟨w.heap.size, 0, none⟩) 7 7) kinds := by
  refine ⟨_, _, rfl, Nat.le_refl _, fun j hj => ⟨_, _, rfl, ?_⟩⟩
  match j, hj with
  | 0, _ => simp [kinds, S, kAddr]
  | 1, _ => simp [kinds, S, kCopy]
  | 2, _ => simp [kinds, S, kLoad]
  | 3, _ => simp [kinds, S, kStore]
  | 4, _ => simp [kinds, S, kNew]
  | 5, _ => simp [kinds, S, kFun]
  | 6, _ => simp [kinds, S, kCall]

/-- stmtE by its tests. -/
theorem stmtE_by (P : ProgD) (s : StmtD) (K X Y A C E N Z : Bool) (hK : K = kinds.contains s.kind) (hX : X = varB P s.x) (hY : Y = yB P s) (hA : A = s.args.all (varB P)) (hC : C = (s.kind == kCall)) (hE : E = decide (3 < s.args.length)) (hN : N = s.args.isEmpty) (hZ : Z = (s.kind == kNew && !(s.y == 0))) :
    stmtE P s = if !K then some 3 else if !X || !Y || !A then some 1 else if C && E then some 8 else if (!C && !N) || Z then some 2 else none := by
  subst hK hX hY hA hC hE hN hZ
  rfl

set_option maxRecDepth 100000 in
set_option maxHeartbeats 8000000 in
theorem refStmtErr_any (P : ProgD) (s : StmtD) (pv v1 v2 v3 : Value) (w : World) (hm : s.args.length ≤ 1000000) (h : IsProg w v1 v2 v3 P) (hz : IsInts w pv s.args) :
    Calls Tryd.prog 28 #[.agg #[v1, v2, v3], .agg #[.string (S s.kind), .int .i64 s.x, .int .i64 s.y, pv]] w fun e w' => e = .returned (.int .i64 (codeO (stmtE P s))) ∧ Below w.heap.size w w' := by
  obtain ⟨pa, pc, rfl⟩ := isInts_form hz
  have H : Hid (IsProg w v1 v2 v3 P) := h
  have HZ : Hid (IsInts w (.slice pa s.args.length pc) s.args) := hz
  obtain ⟨⟨a1, c1, rfl, -, -⟩, ⟨a2, c2, rfl, -, -⟩, ⟨a3, c3, rfl, -, -⟩⟩ := h
  obtain ⟨m1, hm1⟩ : ∃ m, m = P.vars.length := ⟨_, rfl⟩
  obtain ⟨m2, hm2⟩ : ∃ m, m = P.funs.length := ⟨_, rfl⟩
  obtain ⟨m3, hm3⟩ : ∃ m, m = P.stmts.length := ⟨_, rfl⟩
  obtain ⟨n, hn⟩ : ∃ n, n = s.args.length := ⟨_, rfl⟩
  obtain ⟨bk, hbk⟩ : ∃ b, b = S s.kind := ⟨_, rfl⟩
  obtain ⟨x, hx⟩ : ∃ x, x = s.x := ⟨_, rfl⟩
  obtain ⟨y, hy⟩ : ∃ y, y = s.y := ⟨_, rfl⟩
  obtain ⟨K, hK⟩ : ∃ D, D = kinds.contains s.kind := ⟨_, rfl⟩
  obtain ⟨X, hX⟩ : ∃ D, D = varB P s.x := ⟨_, rfl⟩
  obtain ⟨Yv, hYv⟩ : ∃ D, D = varB P s.y := ⟨_, rfl⟩
  obtain ⟨A, hA⟩ : ∃ D, D = s.args.all (varB P) := ⟨_, rfl⟩
  obtain ⟨R, hR⟩ : ∃ R, R = codeO (stmtE P s) := ⟨_, rfl⟩
  have htl : ∀ z : Bs, (bk.toList == z) = (s.kind == z) := fun z => by rw [hbk, S_toList]
  have HQ : Hid (∀ Y C E N Z, Y = yB P s → C = (s.kind == kCall) → E = decide (3 < n) → N = decide (n = 0) → Z = (s.kind == kNew && !(y == 0)) → R = codeO (if !K then some 3 else if !X || !Y || !A then some 1 else if C && E then some 8 else if (!C && !N) || Z then some 2 else none)) := fun Y C E N Z h1 h2 h3 h4 h5 => by
    rw [hR, stmtE_by P s K X Y A C E N Z hK hX h1 hA h2 (by rw [h3, hn]) (by rw [h4, hn]; cases s.args <;> simp) (by rw [h5, hy])]
  have HYB : Hid (∀ F N, F = (s.kind == kFun) → N = (s.kind == kNew) → yB P s = if F then (decide (0 ≤ y) && decide (y < (m2 : Int))) else if N then true else Yv) := fun F N h1 h2 => by
    rw [h1, h2, hy, hm2, hYv]; rfl
  have HTL : Hid (∀ z : Bs, (bk.toList == z) = (s.kind == z)) := htl
  rw [← hR]
  rw [← hn] at HZ hm ⊢
  rw [← hm1, ← hm2, ← hm3] at H ⊢
  rw [← hx, ← hy, ← hbk]
  obtain ⟨W, hW⟩ : ∃ W, W = ((w.alloc (.cells #[.slice a1 m1 c1, .slice a2 m2 c2, .slice a3 m3 c3] 26)).alloc (.cells #[.string bk, .int .i64 x, .int .i64 y, .slice pa n pc] 59)).alloc oKinds := ⟨_, rfl⟩
  have hBW : Below w.heap.size w W := by rw [hW]; exact ((below1 w _).alloc (by simp) _).alloc (by simp; omega) _
  have HKN : Hid (∀ wx, Below W.heap.size W wx → IsProg wx (.slice a1 m1 c1) (.slice a2 m2 c2) (.slice a3 m3 c3) P ∧ IsInts wx (.slice pa n pc) s.args ∧ Box3 wx w.heap.size (.slice a1 m1 c1) (.slice a2 m2 c2) (.slice a3 m3 c3) ∧ Box4 wx (w.heap.size + 1) (.string bk) (.int .i64 x) (.int .i64 y) (.slice pa n pc) ∧ Below w.heap.size w wx) := fun wx hb => by
    refine ⟨(H.out.below hBW).below hb, (HZ.out.below hBW).below hb, ?_, ?_, hBW.trans (hb.mono hBW.size)⟩
    · refine Box3.below ?_ hb
      rw [hW]
      exact ((box3_new w _ _ _ _).below (below1 _ _)).below (below1 _ _)
    · refine Box4.below ?_ hb
      rw [hW]
      have := (box4_new (w.alloc (.cells #[.slice a1 m1 c1, .slice a2 m2 c2, .slice a3 m3 c3] 26)) (.string bk) (.int .i64 x) (.int .i64 y) (.slice pa n pc) 59).below (below1 _ oKinds)
      rw [World.size_alloc] at this
      exact this
  have K1 : Hid (Calls Tryd.prog 45 #[.slice (some ⟨w.heap.size + 1 + 1, 0, none⟩) 7 7, .string bk] W fun e w' => e = .returned (.bool K) ∧ w' = W) := by
    rw [hbk, hK]
    refine refHasText_any kinds s.kind _ W (by decide) ?_
    rw [hW]
    have := kinds_is ((w.alloc (.cells #[.slice a1 m1 c1, .slice a2 m2 c2, .slice a3 m3 c3] 26)).alloc (.cells #[.string bk, .int .i64 x, .int .i64 y, .slice pa n pc] 59))
    simp only [World.size_alloc] at this
    exact this
  have K2 : Hid (∀ wx, Below W.heap.size W wx → Calls Tryd.prog 26 #[.agg #[.slice a1 m1 c1, .slice a2 m2 c2, .slice a3 m3 c3], .int .i64 x] wx fun e w' => e = .returned (.bool X) ∧ Below wx.heap.size wx w') := fun wx hb => by
    rw [hX, hx]; exact refIsVar_any P s.x _ _ _ wx (HKN.out wx hb).1
  have K3 : Hid (∀ wx, Below W.heap.size W wx → Calls Tryd.prog 26 #[.agg #[.slice a1 m1 c1, .slice a2 m2 c2, .slice a3 m3 c3], .int .i64 y] wx fun e w' => e = .returned (.bool Yv) ∧ Below wx.heap.size wx w') := fun wx hb => by
    rw [hYv, hy]; exact refIsVar_any P s.y _ _ _ wx (HKN.out wx hb).1
  have K4 : Hid (∀ wx, Below W.heap.size W wx → Calls Tryd.prog 25 #[.agg #[.slice a1 m1 c1, .slice a2 m2 c2, .slice a3 m3 c3], .slice pa n pc] wx fun e w' => e = .returned (.bool A) ∧ Below wx.heap.size wx w') := fun wx hb => by
    rw [hA]; exact refAreVars_any P s.args _ _ _ _ wx (by omega) (HKN.out wx hb).1 (HKN.out wx hb).2.1
  rw [hW] at K1
  clear hm1 hm2 hm3 hn hbk hx hy hK hX hYv hA hR hz htl
  go_enter Tryd.func28, Tryd.ntmps28
  go_wp2_with fail
  refine K1.out.mono ?_
  rintro e w1 ⟨rfl, hw1⟩
  rw [← hW] at hw1
  obtain rfl := hw1.symm
  clear K1 hw1 hW
  have hB0 := Below.refl W.heap.size W
  cases K with
  | false =>
    have hF := (HKN.out W hB0).2.2.2.2
    have HR : Hid (R = 4) := HQ.out _ _ _ _ _ rfl rfl rfl rfl rfl
    clear hB0
    go_wp2_with fail
    go_ret
    exact ⟨by rw [HR.out]; rfl, hF⟩
  | true =>
  obtain ⟨-, -, ⟨p0, p1, p2⟩, ⟨s0, s1, s2, s3⟩, -⟩ := HKN.out W hB0
  go_wp2_with fail
  refine (K2.out _ hB0).mono ?_
  rintro e w2 ⟨rfl, hB2⟩
  clear K2 p0 p1 p2 s0 s1 s2 s3 hB0
  obtain ⟨-, -, ⟨p0, p1, p2⟩, ⟨s0, s1, s2, s3⟩, -⟩ := HKN.out w2 hB2
  go_wp2_with fail
  refine (K3.out _ hB2).mono ?_
  rintro e w3 ⟨rfl, hB3'⟩
  have hB3 := hB2.trans (hB3'.mono hB2.size)
  clear K3 p0 p1 p2 s0 s1 s2 s3 hB3' hB2
  obtain ⟨-, -, ⟨p0, p1, p2⟩, ⟨s0, s1, s2, s3⟩, -⟩ := HKN.out w3 hB3
  obtain ⟨F, hF⟩ : ∃ F, (bk.toList == [102, 117, 110]) = F := ⟨_, rfl⟩
  obtain ⟨N, hN⟩ : ∃ N, (bk.toList == [110, 101, 119]) = N := ⟨_, rfl⟩
  obtain ⟨C, hC⟩ : ∃ C, (bk.toList == [99, 97, 108, 108]) = C := ⟨_, rfl⟩
  obtain ⟨Y0, hY0⟩ : ∃ Y0, Y0 = if F then (decide (0 ≤ y) && decide (y < (m2 : Int))) else Yv := ⟨_, rfl⟩
  obtain ⟨Y, hY⟩ : ∃ Y, Y = if N then true else Y0 := ⟨_, rfl⟩
  have HFN : Hid (F = true → N = false) := fun h => by
    rw [h] at hF
    rw [eq_of_beq hF] at hN
    rw [← hN]; rfl
  have HYE : Hid (Y = yB P s) := by
    show Y = yB P s
    rw [HYB.out F N (by rw [← hF, HTL.out]; rfl) (by rw [← hN, HTL.out]; rfl), hY, hY0]
    cases F with
    | true => rw [HFN.out rfl]; rfl
    | false => rfl
  go_upto_if 23 with fail
  go_cut [6] (fun s6 wx => s6 = .bool Y0 ∧ wx = w3)
  case first =>
    cases F with
    | true =>
      by_cases g1 : 0 ≤ y
      · by_cases g2 : y < (m2 : Int)
        · have hy0 : Y0 = true := by rw [hY0]; simp [g1, g2]
          clear hY hY0
          go_wp2_with fail
          go_meet
          exact ⟨by rw [hy0], rfl⟩
        · have hy0 : Y0 = false := by rw [hY0]; simp [g2]
          clear hY hY0
          go_wp2_with fail
          go_meet
          exact ⟨by rw [hy0], rfl⟩
      · have hy0 : Y0 = false := by rw [hY0]; simp [g1]
        clear hY hY0
        go_wp2_with fail
        go_meet
        exact ⟨by rw [hy0], rfl⟩
    | false =>
      have hy0 : Y0 = Yv := by rw [hY0]; rfl
      clear hY hY0
      go_wp2_with fail
      go_meet
      exact ⟨by rw [hy0], rfl⟩
  case rest =>
  obtain ⟨rfl, hwc⟩ := hcut
  obtain rfl := hwc
  clear hF hY0
  go_upto_if 37 with fail
  obtain ⟨wd, rfl⟩ : ∃ wd, wd = wc := ⟨_, rfl⟩
  go_cut [6] (fun s6 wx => s6 = .bool Y ∧ wx = wd)
  case first =>
    cases N with
    | true =>
      have hy0 : Y = true := by rw [hY]; rfl
      clear hY
      go_wp2_with fail
      go_meet
      exact ⟨by rw [hy0], rfl⟩
    | false =>
      have hy0 : Y = Y0 := by rw [hY]; rfl
      clear hY
      go_wp2_with fail
      go_meet
      exact ⟨by rw [hy0], rfl⟩
  case rest =>
  obtain ⟨rfl, hwc⟩ := hcut
  obtain rfl := hwc
  clear hY
  go_wp2_with fail
  refine (K4.out _ hB3).mono ?_
  rintro e w4 ⟨rfl, hB4'⟩
  have hB4 := hB3.trans (hB4'.mono hB3.size)
  clear K4 p0 p1 p2 s0 s1 s2 s3 hB4' hB3
  obtain ⟨-, -, ⟨p0, p1, p2⟩, ⟨s0, s1, s2, s3⟩, hBF⟩ := HKN.out w4 hB4
  have HQ2 : Hid (∀ E N' Z, E = decide (3 < n) → N' = decide (n = 0) → Z = (N && !(y == 0)) → R = codeO (if !true then some 3 else if !X || !Y || !A then some 1 else if C && E then some 8 else if (!C && !N') || Z then some 2 else none)) := fun E N' Z h1 h2 h3 =>
    HQ.out Y C E N' Z HYE.out (by rw [← hC, HTL.out]; rfl) h1 h2 (by rw [h3, ← hN, HTL.out]; rfl)
  have HCN : Hid (C = true → N = false) := fun h => by
    rw [h] at hC
    rw [eq_of_beq hC] at hN
    rw [← hN]; rfl
  clear HQ HYE HYB HFN
  cases X with
  | false =>
    have HR : Hid (R = 2) := HQ2.out _ _ _ rfl rfl rfl
    clear HQ2
    go_wp2_with fail
    go_ret
    exact ⟨by rw [HR.out]; rfl, hBF⟩
  | true =>
  cases Y with
  | false =>
    have HR : Hid (R = 2) := HQ2.out _ _ _ rfl rfl rfl
    clear HQ2
    go_wp2_with fail
    go_ret
    exact ⟨by rw [HR.out]; rfl, hBF⟩
  | true =>
  cases A with
  | false =>
    have HR : Hid (R = 2) := HQ2.out _ _ _ rfl rfl rfl
    clear HQ2
    go_wp2_with fail
    go_ret
    exact ⟨by rw [HR.out]; rfl, hBF⟩
  | true =>
  cases C with
  | true =>
    by_cases g : 3 < (n : Int)
    · have HR : Hid (R = 9) := HQ2.out true _ _ (by simp; omega) rfl rfl
      clear HQ2
      go_wp2_with fail
      go_ret
      exact ⟨by rw [HR.out]; rfl, hBF⟩
    · have HR : Hid (R = 0) := by
        show R = 0
        rw [HQ2.out false (decide (n = 0)) (N && !(y == 0)) (by simp; omega) rfl rfl, HCN.out rfl]; rfl
      clear HQ2
      go_wp2_with fail
      go_ret
      exact ⟨by rw [HR.out]; rfl, hBF⟩
  | false =>
    by_cases g : 0 < (n : Int)
    · have HR : Hid (R = 3) := HQ2.out _ false _ rfl (by simp; omega) rfl
      clear HQ2
      go_wp2_with fail
      go_ret
      exact ⟨by rw [HR.out]; rfl, hBF⟩
    · cases N with
      | false =>
        have HR : Hid (R = 0) := HQ2.out _ true _ rfl (by simp; omega) rfl
        clear HQ2
        go_wp2_with fail
        go_ret
        exact ⟨by rw [HR.out]; rfl, hBF⟩
      | true =>
        by_cases g0 : y = 0
        · have HR : Hid (R = 0) := HQ2.out _ true false rfl (by simp; omega) (by rw [g0]; rfl)
          subst g0
          clear HQ2
          go_wp2_with fail
          go_ret
          exact ⟨by rw [HR.out]; rfl, hBF⟩
        · have HR : Hid (R = 3) := HQ2.out _ true true rfl (by simp; omega) (by simp [g0])
          have g1 : (y != 0) = true := by simp [g0]
          clear HQ2
          go_wp2_with fail
          go_ret
          exact ⟨by rw [HR.out]; rfl, hBF⟩
end Go.Proofs.YtdbcjeccmjpbiabDoor
