/-
  Package run: (*machine).step of any statement of a right program, by a contract.
-/
import Derived.Test.YteekjigaicmohaaGreatDoorRHM
import Derived.Test.YteekjigaicmohaaGreatDoorXAM
namespace Go.Proofs.YteekjigaicmohaaGreatDoor
open Go.RowKit Go.Extern.Stop Go.Stop Go.Extern

/-- What statement k does. -/
def doStmt (fs : List FunD) (k : Nat) (st : StmtD) (s : StD) : StD :=
  if st.kind = kAddr then s.put (.var st.x.toNat) (some (.var st.y.toNat))
  else if st.kind = kCopy then s.put (.var st.x.toNat) (s.get (.var st.y.toNat))
  else if st.kind = kLoad then loadD s st.x.toNat (s.get (.var st.y.toNat))
  else if st.kind = kStore then storeD s (s.get (.var st.y.toNat)) (s.get (.var st.x.toNat))
  else if st.kind = kNew then (addT s k).put (.var st.x.toNat) (some (.thing s.things.length))
  else if st.kind = kFun then s.put (.var st.x.toNat) (some (.fn st.y.toNat))
  else callD fs s st.x.toNat st.args (s.get (.var st.y.toNat))
def stepD (P : ProgD) (s : StD) (k : Nat) : StD := doStmt P.funs k (P.stmts.getD k default) s

theorem getDm {α : Type} [Inhabited α] {l : List α} {k : Nat} (h : k < l.length) : l.getD k default ∈ l := by
  simp [List.getD, h]
theorem fun_ok {P : ProgD} (h : Right P) (hs : SmallP P) (i : Nat) (hi : i < P.funs.length) : FunOk P.vars.length (P.funs.getD i default) := by
  obtain ⟨h1, h2⟩ := h.fp _ (getDm hi)
  have h3 := hs.2.2.2.1 _ (getDm hi)
  obtain ⟨r0, r1⟩ := varB_parts h2
  exact ⟨fun j hj => varB_parts (all_at h1 j 0 hj), r0, r1, by omega⟩

theorem step_any {w0 w : World} {Bt mb : Nat} {s : StD} {l : Lay} {v1 v2 v3 xv xf xt xp : Value} (P : ProgD) (h : Mach w w0.heap.size Bt mb P.vars.length P.funs.length s l v1 v2 v3 xv xf xt xp) (hw : Below w0.heap.size w0 w) (hP : IsProg w0 v1 v2 v3 P) (hr : Right P) (hs : SmallP P) (k : Nat) (hk : k < P.stmts.length) (hth : s.things.length ≤ 1000000) :
    Calls Tryz.prog 80 #[.pointer (some ⟨mb, 0, none⟩), .int .i64 (k : Int)] w fun e w' => e = .returned (.tuple #[]) ∧ ∃ l' xt' xp', Mach w' w0.heap.size Bt mb P.vars.length P.funs.length (stepD P s k) l' v1 v2 v3 xv xf xt' xp' ∧ Below w0.heap.size w w' := by
  obtain ⟨tv, tc, rfl, -, hts⟩ := hP.stmts
  obtain ⟨tb, tq, rfl, av, q0, q1, q2, q3, hA, aa, ac, rfl, -⟩ := hts k hk
  have hst := hr.st _ (getDm hk)
  have hal := hs.2.2.2.2 _ (getDm hk)
  unfold stepD
  obtain ⟨st, hste⟩ : ∃ st, st = P.stmts.getD k default := ⟨_, rfl⟩
  rw [← hste] at q0 q1 q2 q3 hA hst hal ⊢
  obtain ⟨k1, k2, k3, k4, -⟩ := stmt_parts hst
  obtain ⟨x0, x1⟩ := varB_parts k2
  have hx : st.x = (st.x.toNat : Int) := by omega
  have hxn : st.x.toNat < P.vars.length := by omega
  replace q0 := cell_keep hw q0
  replace q1 := cell_keep hw q1
  replace q2 := cell_keep hw q2
  replace q3 := cell_keep hw q3
  rw [hx] at q1
  have yv : st.kind ≠ kFun → st.kind ≠ kNew → st.y = (st.y.toNat : Int) ∧ st.y.toNat < P.vars.length := fun n1 n2 => by
    unfold yB at k3
    rw [if_neg (by simpa using n1), if_neg (by simpa using n2)] at k3
    obtain ⟨y0, y1⟩ := varB_parts k3
    omega
  have hao : ∀ j, j < st.args.length → 0 ≤ st.args.getD j 0 ∧ st.args.getD j 0 < (P.vars.length : Int) := fun j hj => varB_parts (all_at k4 j 0 hj)
  simp only [kinds, List.contains_cons, List.contains_nil, Bool.or_false, Bool.or_eq_true, beq_iff_eq] at k1
  unfold doStmt
  rcases k1 with e | e | e | e | e | e | e
  · obtain ⟨y0, yn⟩ := yv (by rw [e]; decide) (by rw [e]; decide)
    rw [if_pos e]
    rw [e] at q0
    rw [y0] at q2
    exact step_Addr h k _ _ hk hxn q0 q1 q2 q3 yn
  · obtain ⟨y0, yn⟩ := yv (by rw [e]; decide) (by rw [e]; decide)
    rw [if_neg (by rw [e]; decide), if_pos e]
    rw [e] at q0
    rw [y0] at q2
    exact step_Copy h k _ _ hk hxn q0 q1 q2 q3 yn
  · obtain ⟨y0, yn⟩ := yv (by rw [e]; decide) (by rw [e]; decide)
    rw [if_neg (by rw [e]; decide), if_neg (by rw [e]; decide), if_pos e]
    rw [e] at q0
    rw [y0] at q2
    exact step_Load h k _ _ hk hxn q0 q1 q2 q3 yn
  · obtain ⟨y0, yn⟩ := yv (by rw [e]; decide) (by rw [e]; decide)
    rw [if_neg (by rw [e]; decide), if_neg (by rw [e]; decide), if_neg (by rw [e]; decide), if_pos e]
    rw [e] at q0
    rw [y0] at q2
    exact step_Store h k _ _ hk hxn q0 q1 q2 q3 yn
  · rw [if_neg (by rw [e]; decide), if_neg (by rw [e]; decide), if_neg (by rw [e]; decide), if_neg (by rw [e]; decide), if_pos e]
    rw [e] at q0
    exact step_New h k _ _ hk hxn q0 q1 q2 q3 hth
  · have hy : st.y = (st.y.toNat : Int) ∧ st.y.toNat < P.funs.length := by
      unfold yB funB at k3
      rw [if_pos (by simpa using e)] at k3
      simp only [Bool.and_eq_true, decide_eq_true_eq] at k3
      omega
    obtain ⟨y0, yn⟩ := hy
    rw [if_neg (by rw [e]; decide), if_neg (by rw [e]; decide), if_neg (by rw [e]; decide), if_neg (by rw [e]; decide), if_neg (by rw [e]; decide), if_pos e]
    rw [e] at q0
    rw [y0] at q2
    exact step_Fun h k _ _ hk hxn q0 q1 q2 q3 yn
  · obtain ⟨y0, yn⟩ := yv (by rw [e]; decide) (by rw [e]; decide)
    rw [if_neg (by rw [e]; decide), if_neg (by rw [e]; decide), if_neg (by rw [e]; decide), if_neg (by rw [e]; decide), if_neg (by rw [e]; decide), if_neg (by rw [e]; decide)]
    rw [e] at q0
    rw [y0] at q2
    exact step_Call h k _ _ hk hxn q0 q1 q2 q3 yn hw P.funs rfl hP.funs (fun i hi => fun_ok hr hs i hi) st.args hA (by omega) hao
end Go.Proofs.YteekjigaicmohaaGreatDoor
