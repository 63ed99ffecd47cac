/-
  The document's StmtText, by a contract.
-/
import Derived.Test.YtakmmpbkojhmhaaGreatDoorXFM
import Derived.Test.YtakmmpbkojhmhaaGreatDoorXCM
namespace Go.Proofs.YtakmmpbkojhmhaaGreatDoor
open Go.RowKit Go.Extern.Stop Go.Stop Go.Extern

/-- A statement whose text can be written. -/
structure Writes (P : ProgD) (s : StmtD) : Prop where
  kind : s.kind ∈ kinds
  x : 0 ≤ s.x ∧ s.x < (P.vars.length : Int)
  y : s.kind ≠ kFun → s.kind ≠ kNew → 0 ≤ s.y ∧ s.y < (P.vars.length : Int)
  f : s.kind = kFun → 0 ≤ s.y ∧ s.y < (P.funs.length : Int)
  args : ∀ z ∈ s.args, 0 ≤ z ∧ z < (P.vars.length : Int)
theorem writes_of {P : ProgD} {s : StmtD} (h : stmtE P s = none) : Writes P s := by
  unfold stmtE at h
  split at h
  · cases h
  rename_i h1
  split at h
  · cases h
  rename_i h2
  have hk : kinds.contains s.kind = true := by simpa using h1
  have h2' : (varB P s.x = true ∧ yB P s = true) ∧ s.args.all (varB P) = true := by simpa [Bool.or_eq_true, not_or] using h2
  have vb : ∀ z, varB P z = true → 0 ≤ z ∧ z < (P.vars.length : Int) := fun z hz => by unfold varB at hz; simpa using hz
  refine ⟨List.contains_iff_mem.1 hk, vb _ h2'.1.1, fun g1 g2 => ?_, fun g => ?_, fun z hz => vb z (List.all_eq_true.1 h2'.2 z hz)⟩
  · have := h2'.1.2
    unfold yB at this
    rw [if_neg (by simpa using g1), if_neg (by simpa using g2)] at this
    exact vb _ this
  · have := h2'.1.2
    unfold yB at this
    rw [if_pos (by simpa using g)] at this
    unfold funB at this
    simpa using this

theorem name_at {P : ProgD} {w : World} {a : Option Addr} {n c : Nat} (h : IsStrs w (.slice a n c) P.vars) (z : Int) (hz : 0 ≤ z ∧ z < (P.vars.length : Int)) : ∃ i b o, z = ((i : Nat) : Int) ∧ i < P.vars.length ∧ a = some ⟨b, o, none⟩ ∧ w.cell? ⟨b, o + i, none⟩ = some (.string (S (nameOf P z))) := by
  obtain ⟨a', c', hv, _, hst⟩ := h
  have hi : z.toNat < P.vars.length := by omega
  obtain ⟨b, o, ha, e⟩ := hst z.toNat hi
  exact ⟨z.toNat, b, o, by omega, hi, by rw [← ha]; exact (Value.slice.inj hv).1, e⟩
theorem nameOf_len {P : ProgD} (h : ∀ x ∈ P.vars, x.length ≤ 1000) (z : Int) : (nameOf P z).length ≤ 1000 := by
  unfold nameOf
  by_cases hi : z.toNat < P.vars.length
  · have : P.vars.getD z.toNat [] = P.vars[z.toNat] := by simp [List.getD, hi]
    rw [this]; exact h _ (List.getElem_mem hi)
  · simp [List.getD, List.getElem?_eq_none (Nat.le_of_not_lt hi)]

set_option maxRecDepth 100000 in
set_option maxHeartbeats 8000000 in
theorem refStmtText_any (P : ProgD) (s : StmtD) (pv v1 v2 v3 : Value) (w : World) (hm : s.args.length ≤ 100000) (hv8 : ∀ x ∈ P.vars, x.length ≤ 1000) (hf8 : ∀ f ∈ P.funs, f.name.length ≤ 1000) (hw : Writes P s) (h : IsProg w v1 v2 v3 P) (hz : IsInts w pv s.args) :
    Calls Tryz.prog 77 #[.agg #[v1, v2, v3], .agg #[.string (S s.kind), .int .i64 s.x, .int .i64 s.y, pv]] w fun e w' => e = .returned (.string (S (lineStmt P s))) ∧ Below w.heap.size w w' := by
  obtain ⟨pa, pc, rfl⟩ := isInts_form hz
  have H : Hid (IsProg w v1 v2 v3 P) := h
  have HW : Hid (Writes P s) := hw
  have HZ : Hid (IsInts w (.slice pa s.args.length pc) s.args) := hz
  obtain ⟨⟨a1, c1, rfl, -, -⟩, ⟨a2, c2, rfl, -, -⟩, ⟨a3, c3, rfl, -, -⟩⟩ := h
  obtain ⟨W, hW⟩ : ∃ W, W = (w.alloc (.cells #[.slice a1 P.vars.length c1, .slice a2 P.funs.length c2, .slice a3 P.stmts.length c3] 43)).alloc (.cells #[.string (S s.kind), .int .i64 s.x, .int .i64 s.y, .slice pa s.args.length pc] 60) := ⟨_, rfl⟩
  have hBW : Below w.heap.size w W := by rw [hW]; exact (below1 w _).alloc (by simp) _
  have hX : Box3 W w.heap.size (.slice a1 P.vars.length c1) (.slice a2 P.funs.length c2) (.slice a3 P.stmts.length c3) := by
    rw [hW]; exact (box3_new w _ _ _ _).below (below1 _ _)
  have hY : Box4 W (w.heap.size + 1) (.string (S s.kind)) (.int .i64 s.x) (.int .i64 s.y) (.slice pa s.args.length pc) := by
    rw [hW]
    have := box4_new (w.alloc (.cells #[.slice a1 P.vars.length c1, .slice a2 P.funs.length c2, .slice a3 P.stmts.length c3] 43)) (.string (S s.kind)) (.int .i64 s.x) (.int .i64 s.y) (.slice pa s.args.length pc) 60
    rw [World.size_alloc] at this
    exact this
  obtain ⟨ix, b, ob, hx, hxl, rfl, ex⟩ := name_at (H.out.below hBW).vars s.x hw.x
  have HP : Hid (IsProg W (.slice (some ⟨b, ob, none⟩) P.vars.length c1) (.slice a2 P.funs.length c2) (.slice a3 P.stmts.length c3) P) := H.out.below hBW
  have HZW : Hid (IsInts W (.slice pa s.args.length pc) s.args) := HZ.out.below hBW
  have hlx := nameOf_len hv8 s.x
  obtain ⟨bx, hbx⟩ : ∃ b, b = S (nameOf P s.x) := ⟨_, rfl⟩
  have hsx : bx.size ≤ 1000 := by rw [hbx, S_size]; exact hlx
  rw [← hbx] at ex
  have HBX : Hid (bx = S (nameOf P s.x)) := hbx
  obtain ⟨n1, hn1⟩ : ∃ m, m = P.vars.length := ⟨_, rfl⟩
  obtain ⟨n2, hn2⟩ : ∃ m, m = P.funs.length := ⟨_, rfl⟩
  obtain ⟨n3, hn3⟩ : ∃ m, m = P.stmts.length := ⟨_, rfl⟩
  obtain ⟨m, hmm⟩ : ∃ m, m = s.args.length := ⟨_, rfl⟩
  obtain ⟨bk, hbk⟩ : ∃ b, b = S s.kind := ⟨_, rfl⟩
  obtain ⟨R, hR⟩ : ∃ R, R = S (lineStmt P s) := ⟨_, rfl⟩
  have HR : Hid (R = S (lineStmt P s)) := hR
  have HBK : Hid (bk = S s.kind) := hbk
  have HNS : Hid (n1 = P.vars.length ∧ n2 = P.funs.length ∧ m = s.args.length) := ⟨hn1, hn2, hmm⟩
  have HN3 : Hid (n3 = P.stmts.length) := hn3
  have HV8 : Hid ((∀ x ∈ P.vars, x.length ≤ 1000) ∧ (∀ f ∈ P.funs, f.name.length ≤ 1000) ∧ s.args.length ≤ 100000) := ⟨hv8, hf8, hm⟩
  have hix : (ix : Int) < (n1 : Int) := by omega
  have hix2 : ix < n1 := by omega
  obtain ⟨p0, p1, p2⟩ := hX
  obtain ⟨s0, s1, s2, s3⟩ := hY
  rw [← hR]
  rw [← hn1, ← hn2, ← hn3, ← hmm, ← hbk, hx] at hW
  rw [← hn1, ← hn2, ← hn3, ← hmm, ← hbk, hx]
  rw [← hn1] at p0
  rw [← hn2] at p1
  rw [← hn3] at p2
  rw [← hbk] at s0
  rw [hx] at s1
  rw [← hmm] at s3
  have hyy : ∃ y, y = s.y := ⟨_, rfl⟩
  obtain ⟨y, hyy⟩ := hyy
  have HYY : Hid (y = s.y) := hyy
  rw [← hyy] at s2 hW
  rw [← hyy]
  clear hz hbx hn1 hn2 hn3 hmm hbk hR hv8 hf8 hm hlx hxl hyy
  have hkinds : s.kind = kAddr ∨ s.kind = kCopy ∨ s.kind = kLoad ∨ s.kind = kStore ∨ s.kind = kNew ∨ s.kind = kFun ∨ s.kind = kCall := by
    have := HW.out.kind
    simpa [kinds] using this
  rcases hkinds with hk | hk | hk | hk | hk | hk | hk
  · have hkl : bk.toList = [97, 100, 100, 114] := by rw [HBK.out, S_toList, hk]; rfl
    obtain ⟨iy, b', ob', hy, hyl, ha, ey⟩ := name_at HP.out.vars s.y (HW.out.y (by rw [hk]; decide) (by rw [hk]; decide))
    cases ha
    obtain ⟨b_y, hby⟩ : ∃ b, b = S (nameOf P s.y) := ⟨_, rfl⟩
    have hsy : b_y.size ≤ 1000 := by rw [hby, S_size]; exact nameOf_len HV8.out.1 s.y
    rw [← hby] at ey
    have hiy : (iy : Int) < (n1 : Int) := by have := HNS.out.1; omega
    have hiy2 : iy < n1 := by omega
    have hye : y = (iy : Int) := by rw [HYY.out]; exact hy
    rw [hye] at s2 hW ⊢
    have HT : Hid (R = ((bx ++ ⟨#[32, 61, 32, 38]⟩) ++ b_y)) := by
      show R = _
      rw [HR.out]
      unfold lineStmt
      rw [hk]
      rw [HBX.out, hby]
      show _ = ((S (nameOf P s.x) ++ S [32, 61, 32, 38]) ++ S (nameOf P s.y))
      simp only [S_append]
      rfl
    have z0 : ¬ 9223372036854775807 < bx.size + 4 := by omega
    have z1 : ¬ 9223372036854775807 < bx.size + 4 + b_y.size := by omega
    clear hk hx hw HR HW H HZ
    clear hy hyl hby hye
    go_enter Tryz.func77, Tryz.ntmps77
    go_upto_region 1 with fail
    rw [← hW]
    clear hW
    go_wp2_with fail
    go_ret
    exact ⟨by rw [HT.out]; rfl, hBW⟩
  · have hkl : bk.toList = [99, 111, 112, 121] := by rw [HBK.out, S_toList, hk]; rfl
    obtain ⟨iy, b', ob', hy, hyl, ha, ey⟩ := name_at HP.out.vars s.y (HW.out.y (by rw [hk]; decide) (by rw [hk]; decide))
    cases ha
    obtain ⟨b_y, hby⟩ : ∃ b, b = S (nameOf P s.y) := ⟨_, rfl⟩
    have hsy : b_y.size ≤ 1000 := by rw [hby, S_size]; exact nameOf_len HV8.out.1 s.y
    rw [← hby] at ey
    have hiy : (iy : Int) < (n1 : Int) := by have := HNS.out.1; omega
    have hiy2 : iy < n1 := by omega
    have hye : y = (iy : Int) := by rw [HYY.out]; exact hy
    rw [hye] at s2 hW ⊢
    have HT : Hid (R = ((bx ++ ⟨#[32, 61, 32]⟩) ++ b_y)) := by
      show R = _
      rw [HR.out]
      unfold lineStmt
      rw [hk]
      rw [HBX.out, hby]
      show _ = ((S (nameOf P s.x) ++ S [32, 61, 32]) ++ S (nameOf P s.y))
      simp only [S_append]
      rfl
    have z0 : ¬ 9223372036854775807 < bx.size + 3 := by omega
    have z1 : ¬ 9223372036854775807 < bx.size + 3 + b_y.size := by omega
    clear hk hx hw HR HW H HZ
    clear hy hyl hby hye
    go_enter Tryz.func77, Tryz.ntmps77
    go_upto_region 1 with fail
    rw [← hW]
    clear hW
    go_wp2_with fail
    go_ret
    exact ⟨by rw [HT.out]; rfl, hBW⟩
  · have hkl : bk.toList = [108, 111, 97, 100] := by rw [HBK.out, S_toList, hk]; rfl
    obtain ⟨iy, b', ob', hy, hyl, ha, ey⟩ := name_at HP.out.vars s.y (HW.out.y (by rw [hk]; decide) (by rw [hk]; decide))
    cases ha
    obtain ⟨b_y, hby⟩ : ∃ b, b = S (nameOf P s.y) := ⟨_, rfl⟩
    have hsy : b_y.size ≤ 1000 := by rw [hby, S_size]; exact nameOf_len HV8.out.1 s.y
    rw [← hby] at ey
    have hiy : (iy : Int) < (n1 : Int) := by have := HNS.out.1; omega
    have hiy2 : iy < n1 := by omega
    have hye : y = (iy : Int) := by rw [HYY.out]; exact hy
    rw [hye] at s2 hW ⊢
    have HT : Hid (R = ((bx ++ ⟨#[32, 61, 32, 42]⟩) ++ b_y)) := by
      show R = _
      rw [HR.out]
      unfold lineStmt
      rw [hk]
      rw [HBX.out, hby]
      show _ = ((S (nameOf P s.x) ++ S [32, 61, 32, 42]) ++ S (nameOf P s.y))
      simp only [S_append]
      rfl
    have z0 : ¬ 9223372036854775807 < bx.size + 4 := by omega
    have z1 : ¬ 9223372036854775807 < bx.size + 4 + b_y.size := by omega
    clear hk hx hw HR HW H HZ
    clear hy hyl hby hye
    go_enter Tryz.func77, Tryz.ntmps77
    go_upto_region 1 with fail
    rw [← hW]
    clear hW
    go_wp2_with fail
    go_ret
    exact ⟨by rw [HT.out]; rfl, hBW⟩
  · have hkl : bk.toList = [115, 116, 111, 114, 101] := by rw [HBK.out, S_toList, hk]; rfl
    obtain ⟨iy, b', ob', hy, hyl, ha, ey⟩ := name_at HP.out.vars s.y (HW.out.y (by rw [hk]; decide) (by rw [hk]; decide))
    cases ha
    obtain ⟨b_y, hby⟩ : ∃ b, b = S (nameOf P s.y) := ⟨_, rfl⟩
    have hsy : b_y.size ≤ 1000 := by rw [hby, S_size]; exact nameOf_len HV8.out.1 s.y
    rw [← hby] at ey
    have hiy : (iy : Int) < (n1 : Int) := by have := HNS.out.1; omega
    have hiy2 : iy < n1 := by omega
    have hye : y = (iy : Int) := by rw [HYY.out]; exact hy
    rw [hye] at s2 hW ⊢
    have HT : Hid (R = (((⟨#[42]⟩ ++ bx) ++ ⟨#[32, 61, 32]⟩) ++ b_y)) := by
      show R = _
      rw [HR.out]
      unfold lineStmt
      rw [hk]
      rw [HBX.out, hby]
      show _ = (((S [42] ++ S (nameOf P s.x)) ++ S [32, 61, 32]) ++ S (nameOf P s.y))
      simp only [S_append]
      rfl
    have z0 : ¬ 9223372036854775807 < 1 + bx.size := by omega
    have z1 : ¬ 9223372036854775807 < 1 + bx.size + 3 := by omega
    have z2 : ¬ 9223372036854775807 < 1 + bx.size + 3 + b_y.size := by omega
    clear hk hx hw HR HW H HZ
    clear hy hyl hby hye
    go_enter Tryz.func77, Tryz.ntmps77
    go_upto_region 1 with fail
    rw [← hW]
    clear hW
    go_wp2_with fail
    go_ret
    exact ⟨by rw [HT.out]; rfl, hBW⟩
  · have hkl : bk.toList = [110, 101, 119] := by rw [HBK.out, S_toList, hk]; rfl
    have HT : Hid (R = (bx ++ ⟨#[32, 61, 32, 110, 101, 119]⟩)) := by
      show R = _
      rw [HR.out]
      unfold lineStmt
      rw [hk]
      rw [HBX.out]
      show _ = (S (nameOf P s.x) ++ S [32, 61, 32, 110, 101, 119])
      simp only [S_append]
      rfl
    have z0 : ¬ 9223372036854775807 < bx.size + 6 := by omega
    clear hk hx hw HR HW H HZ
    go_enter Tryz.func77, Tryz.ntmps77
    go_upto_region 1 with fail
    rw [← hW]
    clear hW
    go_wp2_with fail
    go_ret
    exact ⟨by rw [HT.out]; rfl, hBW⟩
  · have hkl : bk.toList = [102, 117, 110] := by rw [HBK.out, S_toList, hk]; rfl
    have hfr := HW.out.f hk
    obtain ⟨iy, hy⟩ : ∃ i : Nat, s.y = (i : Int) := ⟨s.y.toNat, by omega⟩
    have hyl : iy < P.funs.length := by omega
    obtain ⟨_, _, hv, _, hst⟩ := HP.out.funs
    obtain ⟨b', ob', ha, ⟨_, ey, -, -, -⟩⟩ := hst iy hyl
    obtain rfl : a2 = some ⟨b', ob', none⟩ := by rw [← ha]; exact (Value.slice.inj hv).1
    obtain ⟨b_y, hby⟩ : ∃ b, b = S (P.funs.getD iy default).name := ⟨_, rfl⟩
    have hsy : b_y.size ≤ 1000 := by rw [hby, S_size]; exact HV8.out.2.1 _ (by simp [List.getD, hyl])
    rw [← hby] at ey
    have hiy : (iy : Int) < (n2 : Int) := by have := HNS.out.2.1; omega
    have hiy2 : iy < n2 := by omega
    have hye : y = (iy : Int) := by rw [HYY.out]; exact hy
    have hfo : funOf P s.y = (P.funs.getD iy default).name := by
      unfold funOf fnames
      rw [hy]
      simp [List.getD, hyl]
    rw [hye] at s2 hW ⊢
    have HT : Hid (R = ((bx ++ ⟨#[32, 61, 32, 102, 110, 32]⟩) ++ b_y)) := by
      show R = _
      rw [HR.out]
      unfold lineStmt
      rw [hk]
      rw [HBX.out, hby, ← hfo]
      show _ = ((S (nameOf P s.x) ++ S [32, 61, 32, 102, 110, 32]) ++ S (funOf P s.y))
      simp only [S_append]
      rfl
    have z0 : ¬ 9223372036854775807 < bx.size + 6 := by omega
    have z1 : ¬ 9223372036854775807 < bx.size + 6 + b_y.size := by omega
    clear hk hx hw HR HW H HZ
    clear hy hyl hby hye
    clear hfo hst hv ha hfr
    go_enter Tryz.func77, Tryz.ntmps77
    go_upto_region 1 with fail
    rw [← hW]
    clear hW
    go_wp2_with fail
    go_ret
    exact ⟨by rw [HT.out]; rfl, hBW⟩
  · have hkl : bk.toList = [99, 97, 108, 108] := by rw [HBK.out, S_toList, hk]; rfl
    obtain ⟨iy, b', ob', hy, hyl, ha, ey⟩ := name_at HP.out.vars s.y (HW.out.y (by rw [hk]; decide) (by rw [hk]; decide))
    cases ha
    obtain ⟨b_y, hby⟩ : ∃ b, b = S (nameOf P s.y) := ⟨_, rfl⟩
    have hsy : b_y.size ≤ 1000 := by rw [hby, S_size]; exact nameOf_len HV8.out.1 s.y
    rw [← hby] at ey
    have hiy : (iy : Int) < (n1 : Int) := by have := HNS.out.1; omega
    have hiy2 : iy < n1 := by omega
    have hye : y = (iy : Int) := by rw [HYY.out]; exact hy
    rw [hye] at s2 hW ⊢
    obtain ⟨J, hJ⟩ : ∃ b, b = S (Lib.join (s.args.map (nameOf P)) sep) := ⟨_, rfl⟩
    have hsJ : J.size ≤ 100200000 := by
      rw [hJ, S_size]
      have h1 := join_len (s.args.map (nameOf P)) sep 1000 (fun x hx => by
        obtain ⟨z, _, rfl⟩ := List.mem_map.1 hx
        exact nameOf_len HV8.out.1 z)
      have h2 : (s.args.map (nameOf P)).length * (1000 + sep.length) ≤ 100000 * 1002 := Nat.mul_le_mul (by rw [List.length_map]; exact HV8.out.2.2) (by decide)
      omega
    have HKI : Hid (∀ d os, Calls Tryz.prog 76 #[.agg #[.slice (some ⟨b, ob, none⟩) n1 c1, .slice a2 n2 c2, .slice a3 n3 c3], .slice pa m pc] (Go.Sort.grow (redrawn W d) os) fun e w'' => e = .returned (.string J) ∧ ∃ p : Regrown, w'' = Go.Sort.grow (redrawn W p.d) p.os) := fun d os => by
      rw [hJ]
      have hp' := HP.out.below (below_regrown W d os)
      have hz' := HZW.out.below (below_regrown W d os)
      have := refNames_any P s.args _ _ _ _ _ HV8.out.2.2 HV8.out.1 HW.out.args hp' hz'
      rw [← HNS.out.1, ← HNS.out.2.1, ← HN3.out, ← HNS.out.2.2] at this
      exact Calls.regrown_of this
    have HT : Hid (R = (((((bx ++ ⟨#[32, 61, 32, 99, 97, 108, 108, 32]⟩) ++ b_y) ++ ⟨#[40]⟩) ++ J) ++ ⟨#[41]⟩)) := by
      show R = _
      rw [HR.out]
      unfold lineStmt
      rw [hk]
      rw [HBX.out, hby, hJ]
      show _ = (((((S (nameOf P s.x) ++ S [32, 61, 32, 99, 97, 108, 108, 32]) ++ S (nameOf P s.y)) ++ S [40]) ++ S (Lib.join (s.args.map (nameOf P)) sep)) ++ S [41])
      simp only [S_append]
      show S (nameOf P s.x ++ [32, 61, 32, 99, 97, 108, 108, 32] ++ nameOf P s.y ++ namesT P s.args) = _
      unfold namesT
      simp only [List.append_assoc]
    have z0 : ¬ 9223372036854775807 < bx.size + 8 := by omega
    have z1 : ¬ 9223372036854775807 < bx.size + 8 + b_y.size := by omega
    have z2 : ¬ 9223372036854775807 < bx.size + 8 + b_y.size + 1 := by omega
    have z3 : ¬ 9223372036854775807 < bx.size + 8 + b_y.size + 1 + J.size := by omega
    have z4 : ¬ 9223372036854775807 < bx.size + 8 + b_y.size + 1 + J.size + 1 := by omega
    clear hk hx hw HR HW H HZ
    clear hy hyl hby hye
    have P0 := cell_regrown p0
    have P1 := cell_regrown p1
    have P2 := cell_regrown p2
    have S2 := cell_regrown s2
    have S3 := cell_regrown s3
    have EY := cell_regrown ey
    clear hJ
    go_enter Tryz.func77, Tryz.ntmps77
    go_upto_region 1 with fail
    rw [← hW]
    clear hW
    go_wp2_with fail
    refine wp_region_quiet_below (by kernel_rfl) (by kernel_rfl) ?_
    repeat (quiet_step (first | exact HKI.out _ _))
    refine wpQuiet_nil ?_
    intro _ hw'
    obtain ⟨⟨dq, osq⟩, hw''⟩ := hw'
    subst hw''
    have hBF := hBW.trans ((below_regrown W dq osq).mono hBW.size)
    go_wp2_with fail
    go_ret
    exact ⟨by rw [HT.out]; rfl, hBF⟩
end Go.Proofs.YtakmmpbkojhmhaaGreatDoor

/-
  The document's ProgramText, by a contract.
-/
namespace Go.Proofs.YtakmmpbkojhmhaaGreatDoor
open Go.RowKit Go.Extern.Stop Go.Stop Go.Extern

theorem ended_snocQ (l : List Bs) (x : Bs) : ended (l ++ [x]) = ended l ++ x ++ [10] := by
  unfold ended
  simp [List.append_assoc]
theorem ended_len (l : List Bs) (n : Nat) (h : ∀ x ∈ l, x.length ≤ n) : (ended l).length ≤ l.length * (n + 1) := by
  unfold ended
  induction l with
  | nil => simp
  | cons a r ih =>
    have ha := h a (List.mem_cons_self ..)
    have hr := ih (fun x hx => h x (List.mem_cons_of_mem _ hx))
    simp only [List.map_cons, List.flatten_cons, List.length_append, List.length_cons, List.length_nil] at hr ⊢
    rw [Nat.add_mul, Nat.one_mul]
    omega
theorem take_map_snoc {α : Type} (l : List α) (d : α) (f : α → Bs) (k : Nat) (h : k < l.length) : (l.take (k + 1)).map f = (l.take k).map f ++ [f (l.getD k d)] := by
  have : l.take (k + 1) = l.take k ++ [l.getD k d] := by rw [List.take_add_one]; simp [List.getD, h]
  rw [this, List.map_append, List.map_singleton]
def tx1 (P : ProgD) (k : Nat) : Bs := ended ((P.vars.take k).map lineVar)
def tx2 (P : ProgD) (k : Nat) : Bs := tx1 P P.vars.length ++ ended ((P.funs.take k).map (lineFun P))
def tx3 (P : ProgD) (k : Nat) : Bs := tx2 P P.funs.length ++ ended ((P.stmts.take k).map (lineStmt P))
theorem tx_whole (P : ProgD) : tx3 P P.stmts.length = textP P := by
  unfold tx3 tx2 tx1 textP
  rw [List.take_length, List.take_length, List.take_length]
/-- What the text's parts may be as long as. -/
structure Short (P : ProgD) : Prop where
  v : ∀ x ∈ P.vars, x.length ≤ 1000
  f : ∀ f ∈ P.funs, f.name.length ≤ 1000
  fp : ∀ f ∈ P.funs, ∀ z ∈ f.params, 0 ≤ z ∧ z < (P.vars.length : Int)
  fr : ∀ f ∈ P.funs, 0 ≤ f.ret ∧ f.ret < (P.vars.length : Int)
  st : ∀ s ∈ P.stmts, Writes P s
theorem short_of {P : ProgD} (h : Right P) : Short P := by
  have vb : ∀ z, varB P z = true → 0 ≤ z ∧ z < (P.vars.length : Int) := fun z hz => by unfold varB at hz; simpa using hz
  refine ⟨fun x hx => ?_, fun f hf => ?_, fun f hf z hz => vb z (List.all_eq_true.1 (h.fp f hf).1 z hz), fun f hf => vb _ (h.fp f hf).2, fun s hs => writes_of (h.st s hs)⟩
  · have := (isNm_parts (List.all_eq_true.1 h.vn x hx)).2.2.2.2.2.2.1
    omega
  · have := (isNm_parts (List.all_eq_true.1 h.fn f.name (List.mem_map.2 ⟨f, hf, rfl⟩))).2.2.2.2.2.2.1
    omega
theorem names_len {P : ProgD} (h : Short P) (zs : List Int) (hz : zs.length ≤ 100000) : (Lib.join (zs.map (nameOf P)) sep).length ≤ 100200000 := by
  have h1 := join_len (zs.map (nameOf P)) sep 1000 (fun x hx => by
    obtain ⟨z, _, rfl⟩ := List.mem_map.1 hx
    exact nameOf_len h.v z)
  have h2 : (zs.map (nameOf P)).length * (1000 + sep.length) ≤ 100000 * 1002 := Nat.mul_le_mul (by rw [List.length_map]; exact hz) (by decide)
  omega
theorem lineFun_len {P : ProgD} (h : Short P) {f : FunD} (hf : f ∈ P.funs) (hp : f.params.length ≤ 100000) : (lineFun P f).length ≤ 100300000 := by
  have h1 := names_len h f.params hp
  have h2 := h.f f hf
  have h3 := nameOf_len h.v f.ret
  unfold lineFun namesT
  simp only [List.length_append, List.length_cons, List.length_nil]
  omega
theorem funOf_len {P : ProgD} (h : Short P) (z : Int) : (funOf P z).length ≤ 1000 := by
  unfold funOf
  by_cases hi : z.toNat < (fnames P).length
  · have : (fnames P).getD z.toNat [] = (fnames P)[z.toNat] := by simp [List.getD, hi]
    rw [this]
    obtain ⟨f, hf, he⟩ := List.mem_map.1 (List.getElem_mem hi)
    have he' : f.name = (fnames P)[z.toNat] := he
    rw [← he']
    exact h.f f hf
  · simp [List.getD, List.getElem?_eq_none (Nat.le_of_not_lt hi)]
theorem lineStmt_len {P : ProgD} (h : Short P) {s : StmtD} (hp : s.args.length ≤ 100000) : (lineStmt P s).length ≤ 100300000 := by
  have h1 := names_len h s.args hp
  have h2 := nameOf_len h.v s.x
  have h3 := nameOf_len h.v s.y
  have h4 := funOf_len h s.y
  unfold lineStmt namesT
  repeat' split
  all_goals simp only [List.length_append, List.length_cons, List.length_nil]
  all_goals omega
theorem tx1_len {P : ProgD} (hs : SmallP P) (h : Short P) (k : Nat) : (tx1 P k).length ≤ 100500000 := by
  have h1 := ended_len ((P.vars.take k).map lineVar) 1004 (fun x hx => by
    obtain ⟨v, hv, rfl⟩ := List.mem_map.1 hx
    have := h.v v (List.mem_of_mem_take hv)
    unfold lineVar
    simp only [List.length_append, List.length_cons, List.length_nil]
    omega)
  have h2 : ((P.vars.take k).map lineVar).length * (1004 + 1) ≤ 100000 * 1005 := Nat.mul_le_mul (by rw [List.length_map, List.length_take]; have := hs.1; omega) (by decide)
  unfold tx1; omega
theorem tx2_len {P : ProgD} (hs : SmallP P) (h : Short P) (k : Nat) : (tx2 P k).length ≤ 20000000000000 := by
  have h0 := tx1_len hs h P.vars.length
  have h1 := ended_len ((P.funs.take k).map (lineFun P)) 100300000 (fun x hx => by
    obtain ⟨v, hv, rfl⟩ := List.mem_map.1 hx
    exact lineFun_len h (List.mem_of_mem_take hv) (hs.2.2.2.1 v (List.mem_of_mem_take hv)))
  have h2 : ((P.funs.take k).map (lineFun P)).length * (100300000 + 1) ≤ 100000 * 100300001 := Nat.mul_le_mul (by rw [List.length_map, List.length_take]; have := hs.2.1; omega) (by decide)
  unfold tx2; rw [List.length_append]; omega
theorem tx3_len {P : ProgD} (hs : SmallP P) (h : Short P) (k : Nat) : (tx3 P k).length ≤ 40000000000000 := by
  have h0 := tx2_len hs h P.funs.length
  have h1 := ended_len ((P.stmts.take k).map (lineStmt P)) 100300000 (fun x hx => by
    obtain ⟨v, hv, rfl⟩ := List.mem_map.1 hx
    exact lineStmt_len h (hs.2.2.2.2 v (List.mem_of_mem_take hv)))
  have h2 : ((P.stmts.take k).map (lineStmt P)).length * (100300000 + 1) ≤ 100000 * 100300001 := Nat.mul_le_mul (by rw [List.length_map, List.length_take]; have := hs.2.2.1; omega) (by decide)
  unfold tx3; rw [List.length_append]; omega
theorem tx1_step (P : ProgD) (k : Nat) (h : k < P.vars.length) : S (tx1 P (k + 1)) = S (tx1 P k) ++ S [118, 97, 114, 32] ++ S (P.vars.getD k []) ++ S [10] := by
  rw [S_append, S_append, S_append]
  unfold tx1
  rw [take_map_snoc P.vars [] lineVar k h, ended_snocQ]
  simp [lineVar, List.append_assoc]
theorem tx2_step (P : ProgD) (k : Nat) (h : k < P.funs.length) : S (tx2 P (k + 1)) = S (tx2 P k) ++ S [102, 110, 32] ++ S (P.funs.getD k default).name ++ S [40] ++ S (Lib.join ((P.funs.getD k default).params.map (nameOf P)) sep) ++ S [41, 32] ++ S (nameOf P (P.funs.getD k default).ret) ++ S [10] := by
  simp only [S_append]
  unfold tx2
  rw [take_map_snoc P.funs default (lineFun P) k h, ended_snocQ]
  simp [lineFun, namesT, List.append_assoc]
theorem tx3_step (P : ProgD) (k : Nat) (h : k < P.stmts.length) : S (tx3 P (k + 1)) = S (tx3 P k) ++ S (lineStmt P (P.stmts.getD k default)) ++ S [10] := by
  rw [S_append, S_append]
  unfold tx3
  rw [take_map_snoc P.stmts default (lineStmt P) k h, ended_snocQ]
  simp [List.append_assoc]
end Go.Proofs.YtakmmpbkojhmhaaGreatDoor

/-
  The document's ProgramText, by a contract.
-/
namespace Go.Proofs.YtakmmpbkojhmhaaGreatDoor
open Go.RowKit Go.Extern.Stop Go.Stop Go.Extern

set_option maxRecDepth 100000 in
set_option maxHeartbeats 8000000 in
theorem refText_any (P : ProgD) (v1 v2 v3 : Value) (w : World) (hs : SmallP P) (hc : checkE P = none) (h : IsProg w v1 v2 v3 P) :
    Calls Tryz.prog 35 #[.agg #[v1, v2, v3]] w fun e w' => e = .returned (.string (S (textP P))) ∧ Below w.heap.size w w' := by
  have H : Hid (IsProg w v1 v2 v3 P) := h
  have HS : Hid (SmallP P) := hs
  have HSH : Hid (Short P) := short_of (right_of hc)
  obtain ⟨⟨a1, c1, rfl, -, -⟩, ⟨a2, c2, rfl, -, -⟩, ⟨a3, c3, rfl, -, -⟩⟩ := h
  obtain ⟨n1, hn1⟩ : ∃ m, m = P.vars.length := ⟨_, rfl⟩
  obtain ⟨n2, hn2⟩ : ∃ m, m = P.funs.length := ⟨_, rfl⟩
  obtain ⟨n3, hn3⟩ : ∃ m, m = P.stmts.length := ⟨_, rfl⟩
  have HN : Hid (n1 = P.vars.length ∧ n2 = P.funs.length ∧ n3 = P.stmts.length) := ⟨hn1, hn2, hn3⟩
  have hs1 : n1 ≤ 100000 := by rw [hn1]; exact hs.1
  have hs2 : n2 ≤ 100000 := by rw [hn2]; exact hs.2.1
  have hs3 : n3 ≤ 100000 := by rw [hn3]; exact hs.2.2.1
  obtain ⟨R, hR⟩ : ∃ R, R = S (textP P) := ⟨_, rfl⟩
  have HR : Hid (R = S (tx3 P n3)) := by show R = _; rw [hR, hn3, tx_whole]
  rw [← hR]
  rw [← hn1, ← hn2, ← hn3] at H ⊢
  obtain ⟨W, hW⟩ : ∃ W, W = w.alloc (.cells #[.slice a1 n1 c1, .slice a2 n2 c2, .slice a3 n3 c3] 43) := ⟨_, rfl⟩
  have hBW : Below w.heap.size w W := by rw [hW]; exact below1 w _
  have HKN : Hid (∀ wx, Below W.heap.size W wx → IsProg wx (.slice a1 n1 c1) (.slice a2 n2 c2) (.slice a3 n3 c3) P ∧ Box3 wx w.heap.size (.slice a1 n1 c1) (.slice a2 n2 c2) (.slice a3 n3 c3) ∧ Below w.heap.size w wx) := fun wx hb => by
    refine ⟨(H.out.below hBW).below hb, ?_, hBW.trans (hb.mono hBW.size)⟩
    refine Box3.below ?_ hb
    rw [hW]
    exact box3_new w _ _ _ _
  clear hR hn1 hn2 hn3 hs hc
  have hB := Below.refl W.heap.size W
  go_enter Tryz.func35, Tryz.ntmps35
  go_wp2_with fail
  rw [← hW]
  clear hW
  go_loopw [3, 4] (fun t u wr => ∃ k : Nat, k ≤ n1 ∧ t = .string (S (tx1 P k)) ∧ u = .int .i64 k ∧ Below W.heap.size W wr) (fun _ u _ => (n1 - intOf u).toNat)
  case atStart => exact ⟨0, Nat.zero_le _, rfl, rfl, hB⟩
  case round =>
    clear hB
    obtain ⟨k, hk, rfl, rfl, hB⟩ := hrel
    obtain ⟨U, hU⟩ : ∃ U, U = S (tx1 P k) := ⟨_, rfl⟩
    have hUs : U.size ≤ 100500000 := by rw [hU, S_size]; exact tx1_len HS.out HSH.out k
    rw [← hU]
    obtain ⟨hp, ⟨p0, p1, p2⟩, -⟩ := HKN.out wr hB
    by_cases hlt : k < n1
    · have hl : k < P.vars.length := by rw [← HN.out.1]; exact hlt
      obtain ⟨_, _, hv, _, hst⟩ := hp.vars
      obtain ⟨b, o, ha, e0⟩ := hst k hl
      obtain rfl : a1 = some ⟨b, o, none⟩ := by rw [← ha]; exact (Value.slice.inj hv).1
      obtain ⟨bz, hbz⟩ : ∃ b, b = S (P.vars.getD k []) := ⟨_, rfl⟩
      rw [← hbz] at e0
      have hbs : bz.size ≤ 1000 := by rw [hbz, S_size]; exact HSH.out.v _ (by simp [List.getD, hl])
      have HJ : Hid (U ++ ⟨#[118, 97, 114, 32]⟩ ++ bz ++ ⟨#[10]⟩ = S (tx1 P (k + 1))) := by
        show U ++ S [118, 97, 114, 32] ++ bz ++ S [10] = S (tx1 P (k + 1))
        rw [hU, hbz, tx1_step P k hl]
      have z0 : ¬ 9223372036854775807 < U.size + 4 := by omega
      have z1 : ¬ 9223372036854775807 < U.size + 4 + bz.size := by omega
      have z2 : ¬ 9223372036854775807 < U.size + 4 + bz.size + 1 := by omega
      clear hv hst ha hl hbz hU hp
      go_wp2_with fail
      go_roundw
      case rel => exact ⟨k + 1, hlt, by rw [← HJ.out], by go_num, hB⟩
      case measure => simp [intOf]; omega
    · have HU : Hid (U = S (tx2 P 0)) := by
        show U = _
        rw [hU, show k = P.vars.length by rw [← HN.out.1]; omega]
        unfold tx2 ended
        simp
      obtain ⟨wa, rfl⟩ : ∃ wa, wa = wr := ⟨_, rfl⟩
      clear hp hU
      go_wp2_with fail
      clear p0 p1 p2 hlt hk
      go_loopw [3, 5] (fun t u wr => ∃ k : Nat, k ≤ n2 ∧ t = .string (S (tx2 P k)) ∧ u = .int .i64 k ∧ Below W.heap.size W wr) (fun _ u _ => (n2 - intOf u).toNat)
      case atStart => exact ⟨0, Nat.zero_le _, by rw [HU.out], rfl, hB⟩
      case round =>
        clear hB HU hUs
        obtain ⟨k, hk, rfl, rfl, hB⟩ := hrel
        obtain ⟨U, hU⟩ : ∃ U, U = S (tx2 P k) := ⟨_, rfl⟩
        have hUs : U.size ≤ 20000000000000 := by rw [hU, S_size]; exact tx2_len HS.out HSH.out k
        rw [← hU]
        obtain ⟨hp, ⟨p0, p1, p2⟩, -⟩ := HKN.out wr hB
        by_cases hlt : k < n2
        · have hl : k < P.funs.length := by rw [← HN.out.2.1]; exact hlt
          obtain ⟨_, _, hv, _, hst⟩ := hp.funs
          obtain ⟨b, o, ha, e0⟩ := hst k hl
          obtain rfl : a2 = some ⟨b, o, none⟩ := by rw [← ha]; exact (Value.slice.inj hv).1
          obtain ⟨f, hf⟩ : ∃ f, f = P.funs.getD k default := ⟨_, rfl⟩
          have hmem : f ∈ P.funs := by rw [hf]; simp [List.getD, hl]
          rw [← hf] at e0
          obtain ⟨pv, r0, r1, hi, r2⟩ := e0
          have HI : Hid (IsInts wr pv f.params) := hi.1
          obtain ⟨-, pa, pc, rfl, -⟩ := hi
          obtain ⟨ir, b1, o1, hir, hirl, ha1, er⟩ := name_at hp.vars f.ret (HSH.out.fr f hmem)
          subst ha1
          obtain ⟨bn, hbn⟩ : ∃ b, b = S f.name := ⟨_, rfl⟩
          obtain ⟨br, hbr⟩ : ∃ b, b = S (nameOf P f.ret) := ⟨_, rfl⟩
          obtain ⟨J, hJ⟩ : ∃ b, b = S (Lib.join (f.params.map (nameOf P)) sep) := ⟨_, rfl⟩
          have q1 : bn.size ≤ 1000 := by rw [hbn, S_size]; exact HSH.out.f f hmem
          have q2 : br.size ≤ 1000 := by rw [hbr, S_size]; exact nameOf_len HSH.out.v f.ret
          have q3 : J.size ≤ 100200000 := by rw [hJ, S_size]; exact names_len HSH.out f.params (HS.out.2.2.2.1 f hmem)
          have HT : Hid (U ++ ⟨#[102, 110, 32]⟩ ++ bn ++ ⟨#[40]⟩ ++ J ++ ⟨#[41, 32]⟩ ++ br ++ ⟨#[10]⟩ = S (tx2 P (k + 1))) := by
            show U ++ S [102, 110, 32] ++ bn ++ S [40] ++ J ++ S [41, 32] ++ br ++ S [10] = S (tx2 P (k + 1))
            rw [hU, hbn, hbr, hJ, tx2_step P k hl, ← hf]
          obtain ⟨m, hm⟩ : ∃ m, m = f.params.length := ⟨_, rfl⟩
          have HPF : Hid (f ∈ P.funs ∧ m = f.params.length) := ⟨hmem, hm⟩
          rw [← hbn] at r0
          rw [hir] at r2
          rw [← hm] at r1 HI
          rw [← hbr] at er
          have hirn : (ir : Int) < (n1 : Int) := by have := HN.out.1; omega
          have hirn2 : ir < n1 := by omega
          have HKF : Hid (∀ wx, Below W.heap.size W wx → IsInts wx (.slice pa m pc) f.params → ∀ d os, Calls Tryz.prog 76 #[.agg #[.slice (some ⟨b1, o1, none⟩) n1 c1, .slice (some ⟨b, o, none⟩) n2 c2, .slice a3 n3 c3], .slice pa m pc] (Go.Sort.grow (redrawn wx d) os) fun e w'' => e = .returned (.string J) ∧ ∃ p : Regrown, w'' = Go.Sort.grow (redrawn wx p.d) p.os) := fun wx hb hii d os => by
            rw [hJ]
            exact Calls.regrown_of (refNames_any P f.params _ _ _ _ _ (HS.out.2.2.2.1 f HPF.out.1) HSH.out.v (HSH.out.fp f HPF.out.1) ((HKN.out wx hb).1.below (below_regrown wx d os)) (hii.below (below_regrown wx d os)))
          clear hv hst ha hl hf hmem hU hbn hbr hJ hm hp hir hirl
          go_upto_region 10 with fail
          obtain ⟨w9, hw9⟩ : ∃ w9, w9 = wr.alloc (.cells #[.string bn, .slice pa m pc, .int .i64 (ir : Int)] 78) := ⟨_, rfl⟩
          have hb9 : Below wr.heap.size wr w9 := by rw [hw9]; exact below1 wr _
          have hB9 : Below W.heap.size W w9 := hB.trans (hb9.mono hB.size)
          have t0 : w9.cell? ⟨wr.heap.size, 0, none⟩ = some (.string bn) := by rw [hw9]; simp
          have t1 : w9.cell? ⟨wr.heap.size, 1, none⟩ = some (.slice pa m pc) := by rw [hw9]; simp
          have t2 : w9.cell? ⟨wr.heap.size, 2, none⟩ = some (.int .i64 (ir : Int)) := by rw [hw9]; simp
          have P0 := cell_regrown (cell_keep hb9 p0)
          have P1 := cell_regrown (cell_keep hb9 p1)
          have P2 := cell_regrown (cell_keep hb9 p2)
          have T0 := cell_regrown t0
          have T1 := cell_regrown t1
          have T2 := cell_regrown t2
          have ER := cell_regrown (cell_keep hb9 er)
          have HKI : Hid (∀ d os, Calls Tryz.prog 76 #[.agg #[.slice (some ⟨b1, o1, none⟩) n1 c1, .slice (some ⟨b, o, none⟩) n2 c2, .slice a3 n3 c3], .slice pa m pc] (Go.Sort.grow (redrawn w9 d) os) fun e w'' => e = .returned (.string J) ∧ ∃ p : Regrown, w'' = Go.Sort.grow (redrawn w9 p.d) p.os) := HKF.out w9 hB9 (HI.out.below hb9)
          have z0 : ¬ 9223372036854775807 < U.size + 3 := by omega
          have z1 : ¬ 9223372036854775807 < U.size + 3 + bn.size := by omega
          have z2 : ¬ 9223372036854775807 < U.size + 3 + bn.size + 1 := by omega
          have z3 : ¬ 9223372036854775807 < U.size + 3 + bn.size + 1 + J.size := by omega
          have z4 : ¬ 9223372036854775807 < U.size + 3 + bn.size + 1 + J.size + 2 := by omega
          have z5 : ¬ 9223372036854775807 < U.size + 3 + bn.size + 1 + J.size + 2 + br.size := by omega
          have z6 : ¬ 9223372036854775807 < U.size + 3 + bn.size + 1 + J.size + 2 + br.size + 1 := by omega
          rw [← hw9]
          clear hw9 HKF HI p0 p1 p2 r0 r1 r2 er t0 t1 t2 hb9 hB
          refine wp_region_quiet_below (by kernel_rfl) (by kernel_rfl) ?_
          repeat (quiet_step (first | exact HKI.out _ _))
          refine wpQuiet_nil ?_
          intro _ hw'
          obtain ⟨⟨dq, osq⟩, hw''⟩ := hw'
          subst hw''
          have hBq : Below W.heap.size W (Go.Sort.grow (redrawn w9 dq) osq) := hB9.trans ((below_regrown w9 dq osq).mono hB9.size)
          clear HKI P0 P1 P2 T0 T1 T2 ER z0 z1 z2 z3 z4 z5 z6
          go_wp2_with fail
          go_roundw
          case rel => exact ⟨k + 1, hlt, by rw [← HT.out], by go_num, hBq⟩
          case measure => simp [intOf]; omega
        · have HU : Hid (U = S (tx3 P 0)) := by
            show U = _
            rw [hU, show k = P.funs.length by rw [← HN.out.2.1]; omega]
            unfold tx3 ended
            simp
          obtain ⟨wb, rfl⟩ : ∃ wb, wb = wr := ⟨_, rfl⟩
          clear hp hU
          go_wp2_with fail
          clear p0 p1 p2 hlt hk
          go_loopw [3, 7] (fun t u wr => ∃ k : Nat, k ≤ n3 ∧ t = .string (S (tx3 P k)) ∧ u = .int .i64 k ∧ Below W.heap.size W wr) (fun _ u _ => (n3 - intOf u).toNat)
          case atStart => exact ⟨0, Nat.zero_le _, by rw [HU.out], rfl, hB⟩
          case round =>
            clear hB HU hUs
            obtain ⟨k, hk, rfl, rfl, hB⟩ := hrel
            obtain ⟨U, hU⟩ : ∃ U, U = S (tx3 P k) := ⟨_, rfl⟩
            have hUs : U.size ≤ 40000000000000 := by rw [hU, S_size]; exact tx3_len HS.out HSH.out k
            rw [← hU]
            obtain ⟨hp, ⟨p0, p1, p2⟩, hBF⟩ := HKN.out wr hB
            by_cases hlt : k < n3
            · have hl : k < P.stmts.length := by rw [← HN.out.2.2]; exact hlt
              obtain ⟨_, _, hv, _, hst⟩ := hp.stmts
              obtain ⟨b, o, ha, e0⟩ := hst k hl
              obtain rfl : a3 = some ⟨b, o, none⟩ := by rw [← ha]; exact (Value.slice.inj hv).1
              obtain ⟨f, hf⟩ : ∃ f, f = P.stmts.getD k default := ⟨_, rfl⟩
              have hmem : f ∈ P.stmts := by rw [hf]; simp [List.getD, hl]
              rw [← hf] at e0
              obtain ⟨pv, r0, r1, r2, r3, hi⟩ := e0
              have hi1 := hi.1
              obtain ⟨-, pa, pc, rfl, -⟩ := hi
              obtain ⟨L, hL⟩ : ∃ b, b = S (lineStmt P f) := ⟨_, rfl⟩
              have q1 : L.size ≤ 100300000 := by rw [hL, S_size]; exact lineStmt_len HSH.out (HS.out.2.2.2.2 f hmem)
              have HT : Hid (U ++ L ++ ⟨#[10]⟩ = S (tx3 P (k + 1))) := by
                show U ++ L ++ S [10] = S (tx3 P (k + 1))
                rw [hU, hL, tx3_step P k hl, ← hf]
              have KI : ∀ d os, Calls Tryz.prog 77 #[.agg #[.slice a1 n1 c1, .slice a2 n2 c2, .slice (some ⟨b, o, none⟩) n3 c3], .agg #[.string (S f.kind), .int .i64 f.x, .int .i64 f.y, .slice pa f.args.length pc]] (Go.Sort.grow (redrawn wr d) os) fun e w'' => e = .returned (.string L) ∧ ∃ p : Regrown, w'' = Go.Sort.grow (redrawn wr p.d) p.os := fun d os => by
                rw [hL]
                exact Calls.regrown_of (refStmtText_any P f _ _ _ _ _ (HS.out.2.2.2.2 f hmem) HSH.out.v HSH.out.f (HSH.out.st f hmem) (hp.below (below_regrown wr d os)) (hi1.below (below_regrown wr d os)))
              obtain ⟨m, hm⟩ : ∃ m, m = f.args.length := ⟨_, rfl⟩
              obtain ⟨bk, hbk⟩ : ∃ r, r = S f.kind := ⟨_, rfl⟩
              obtain ⟨fx, hfx⟩ : ∃ r, r = f.x := ⟨_, rfl⟩
              obtain ⟨fy, hfy⟩ : ∃ r, r = f.y := ⟨_, rfl⟩
              rw [← hm] at r3 KI
              rw [← hbk] at r0 KI
              rw [← hfx] at r1 KI
              rw [← hfy] at r2 KI
              have HKI : Hid (∀ d os, Calls Tryz.prog 77 #[.agg #[.slice a1 n1 c1, .slice a2 n2 c2, .slice (some ⟨b, o, none⟩) n3 c3], .agg #[.string bk, .int .i64 fx, .int .i64 fy, .slice pa m pc]] (Go.Sort.grow (redrawn wr d) os) fun e w'' => e = .returned (.string L) ∧ ∃ p : Regrown, w'' = Go.Sort.grow (redrawn wr p.d) p.os) := KI
              have P0 := cell_regrown p0
              have P1 := cell_regrown p1
              have P2 := cell_regrown p2
              have R0 := cell_regrown r0
              have R1 := cell_regrown r1
              have R2 := cell_regrown r2
              have R3 := cell_regrown r3
              have z0 : ¬ 9223372036854775807 < U.size + L.size := by omega
              have z1 : ¬ 9223372036854775807 < U.size + L.size + 1 := by omega
              clear hv hst ha hl hf hmem hU hL hp hi1 hm hbk hfx hfy KI
              go_upto_region 14 with fail
              refine wp_region_quiet_below (by kernel_rfl) (by kernel_rfl) ?_
              repeat (quiet_step (first | exact HKI.out _ _))
              refine wpQuiet_nil ?_
              intro _ hw'
              obtain ⟨⟨dq, osq⟩, hw''⟩ := hw'
              subst hw''
              have hBq : Below W.heap.size W (Go.Sort.grow (redrawn wr dq) osq) := hB.trans ((below_regrown wr dq osq).mono hB.size)
              clear HKI P0 P1 P2 R0 R1 R2 R3 z0 z1 p0 p1 p2 r0 r1 r2 r3
              go_wp2_with fail
              go_roundw
              case rel => exact ⟨k + 1, hlt, by rw [← HT.out], by go_num, hBq⟩
              case measure => simp [intOf]; omega
            · have HU : Hid (R = U) := by show R = U; rw [HR.out, hU, show k = n3 by omega]
              clear hp hU
              go_wp2_with fail
              go_ret
              exact ⟨by rw [HU.out]; rfl, hBF⟩
end Go.Proofs.YtakmmpbkojhmhaaGreatDoor
