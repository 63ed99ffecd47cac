/-
  The document's Cut of a text at its line ends, by a contract.
-/
import Derived.Test.YtakmmpbkojhmhaaGreatDoorPMem
import Derived.Test.YtakmmpbkojhmhaaGreatDoorPR
import Derived.Deep.QuietTactic
import Derived.BigQuiet
namespace Go.Proofs.YtakmmpbkojhmhaaGreatDoor
open Go.RowKit Go.Extern.Stop Go.Stop Go.Extern Go.Sort

/-- The lines of a text, and what is behind the last line's end. -/
def cutL (s : Bs) : List Bs := (linesOf s).1 ++ [(linesOf s).2]
theorem cutL_at (a b : Bs) (h : (10 : UInt8) ∉ a) : cutL (a ++ 10 :: b) = a :: cutL b := by unfold cutL; rw [linesOf_at a b h]; rfl
theorem cutL_no (a : Bs) (h : (10 : UInt8) ∉ a) : cutL a = [a] := by unfold cutL; rw [linesOf_no a h]; rfl
theorem extract_S (s : ByteArray) (g k : Nat) : s.extract g k = S ((s.data.toList.drop g).take (k - g)) := by
  rw [← S_of (s.extract g k), Lib.extract_data]
theorem cutL_step (l : Bs) (f k : Nat) (hf : f ≤ k) (hk : k < l.length) (hn : (10 : UInt8) ∉ (l.drop f).take (k - f)) (hc : l[k] = 10) : cutL (l.drop f) = (l.drop f).take (k - f) :: cutL (l.drop (k + 1)) := by
  have e : l.drop f = (l.drop f).take (k - f) ++ 10 :: l.drop (k + 1) := by
    have h1 : (l.drop f).drop (k - f) = l.drop k := by rw [List.drop_drop]; congr 1; omega
    have h2 : l.drop k = l[k] :: l.drop (k + 1) := (List.drop_eq_getElem_cons hk)
    rw [← hc, ← h2, ← h1, List.take_append_drop]
  have h3 := cutL_at ((l.drop f).take (k - f)) (l.drop (k + 1)) hn
  rw [← e] at h3
  exact h3
theorem cutL_last (l : Bs) (f : Nat) (hn : (10 : UInt8) ∉ (l.drop f).take (l.length - f)) : cutL (l.drop f) = [(l.drop f).take (l.length - f)] := by
  have e : (l.drop f).take (l.length - f) = l.drop f := List.take_of_length_le (by simp)
  rw [e] at hn ⊢
  exact cutL_no _ hn
theorem take_on (l : Bs) (f k : Nat) (hf : f ≤ k) (hk : k < l.length) : (l.drop f).take (k + 1 - f) = (l.drop f).take (k - f) ++ [l[k]] := by
  have h1 : k + 1 - f = (k - f) + 1 := by omega
  have h2 : k - f < (l.drop f).length := by simp; omega
  rw [h1, List.take_succ_eq_append_getElem h2]
  congr 2
  rw [List.getElem_drop]
  congr 1
  omega

set_option maxRecDepth 100000 in
set_option maxHeartbeats 2000000 in
theorem refCut_any (s : ByteArray) (w : World) (hs : s.size ≤ 100000) :
    Calls Tryz.prog 56 #[.string s, .int .u8 10] w fun e w' => ∃ v' : Value, e = .returned v' ∧ (cutL s.data.toList).length ≤ 100001 ∧ w'.ownsRow w.heap.size 9 1 v' (cutL s.data.toList).length ((cutL s.data.toList).map strV) ∧ Below w.heap.size w w' := by
  go_enter Tryz.func56, Tryz.ntmps56
  go_wp2_with fail
  go_loopw [5, 6, 7] (fun u f t wr => ∃ (k g : Nat) (ws : List Bs), k ≤ s.size ∧ g ≤ k ∧ t = .int .i64 k ∧ f = .int .i64 g ∧ ws.length ≤ k ∧ ws ++ cutL (s.data.toList.drop g) = cutL s.data.toList ∧ (10 : UInt8) ∉ (s.data.toList.drop g).take (k - g) ∧ wr.ownsRow w.heap.size 9 1 u ws.length (ws.map strV) ∧ Below w.heap.size w wr) (fun _ _ t _ => (s.size - intOf t).toNat)
  case atStart => exact ⟨0, 0, [], Nat.zero_le _, Nat.le_refl _, rfl, rfl, Nat.le_refl _, rfl, (fun h => by simp at h), World.ownsRow_nil _ _ _ _, Below.refl _ _⟩
  case round =>
    obtain ⟨k, g, ws, hk, hg, rfl, rfl, hwl, hsp, hno, ho, hB⟩ := hrel
    have HSP : Hid (ws ++ cutL (s.data.toList.drop g) = cutL s.data.toList ∧ (10 : UInt8) ∉ (s.data.toList.drop g).take (k - g)) := ⟨hsp, hno⟩
    have HO : Hid (wr.ownsRow w.heap.size 9 1 u5 ws.length (ws.map strV)) := ho
    clear hsp hno ho
    by_cases hlt : k < s.size
    · have hkl : k < s.data.toList.length := by rw [← Lib.size_eq]; exact hlt
      have hsk : (s[k]'hlt) = s.data.toList[k] := rfl
      cases hcc : (((s[k]'hlt).toNat : Int) == 10) with
      | true =>
        have hbyte : (s[k]'hlt) = 10 := by
          have h2 : (s[k]'hlt).toNat = 10 := by have := beq_iff_eq.1 hcc; omega
          exact UInt8.toNat_inj.1 (by simpa using h2)
        have hsz : w.heap.size ≤ wr.heap.size := hB.size
        obtain ⟨v', w2, hr, ho2, hB2⟩ := append_str wr w.heap.size u5 ws HO.out hsz (by omega) ((s.data.toList.drop g).take (k - g)) 39
        rw [← extract_S] at hr
        have HX : Hid ((ws ++ [(s.data.toList.drop g).take (k - g)]) ++ cutL (s.data.toList.drop (k + 1)) = cutL s.data.toList ∧ w2.ownsRow w.heap.size 9 1 v' (ws ++ [(s.data.toList.drop g).take (k - g)]).length ((ws ++ [(s.data.toList.drop g).take (k - g)]).map strV) ∧ Below w.heap.size w w2) := by
          refine ⟨?_, ho2, hB.trans hB2⟩
          rw [← HSP.out.1, cutL_step _ g k hg hkl HSP.out.2 (by rw [← hsk]; exact hbyte)]
          simp
        clear ho2 hB2 hkl hsk hbyte
        go_wp2_with (at_builtin; refine Lib.wpList_append_run _ rfl _ _ _ _ rfl _ _ rfl rfl _ _ hr ?_)
        go_roundw
        case rel => exact ⟨k + 1, k + 1, ws ++ [(s.data.toList.drop g).take (k - g)], by omega, Nat.le_refl _, by go_num, by go_num, by simp; omega, HX.out.1, (fun h => by simp at h), HX.out.2.1, HX.out.2.2⟩
        case measure => simp [intOf]; omega
      | false =>
        have HNB : Hid ((10 : UInt8) ∉ (s.data.toList.drop g).take (k + 1 - g)) := by
          show ¬ _
          rw [take_on _ g k hg hkl, List.mem_append, List.mem_singleton]
          rintro (h | h)
          · exact HSP.out.2 h
          · have : ((s[k]'hlt).toNat : Int) ≠ 10 := beq_eq_false_iff_ne.1 hcc
            rw [hsk, ← h] at this
            exact this rfl
        clear hkl hsk
        go_wp2_with fail
        go_roundw
        case rel => exact ⟨k + 1, g, ws, by omega, by omega, by go_num, rfl, by omega, HSP.out.1, HNB.out, HO.out, hB⟩
        case measure => simp [intOf]; omega
    · have hks : k = s.data.toList.length := by rw [← Lib.size_eq]; omega
      have hsz : w.heap.size ≤ wr.heap.size := hB.size
      obtain ⟨v', w2, hr, ho2, hB2⟩ := append_str wr w.heap.size u5 ws HO.out hsz (by omega) ((s.data.toList.drop g).take (s.size - g)) 39
      rw [← extract_S] at hr
      have HX : Hid (ws ++ [(s.data.toList.drop g).take (s.size - g)] = cutL s.data.toList ∧ w2.ownsRow w.heap.size 9 1 v' (ws ++ [(s.data.toList.drop g).take (s.size - g)]).length ((ws ++ [(s.data.toList.drop g).take (s.size - g)]).map strV) ∧ Below w.heap.size w w2) := by
        refine ⟨?_, ho2, hB.trans hB2⟩
        have h2 := HSP.out.2
        rw [hks] at h2
        rw [← HSP.out.1, cutL_last _ g h2, Lib.size_eq s]
      clear ho2 hB2 hks
      have hgs : g ≤ s.size := by omega
      go_wp2_with (at_builtin; refine Lib.wpList_append_run _ rfl _ _ _ _ rfl _ _ rfl rfl _ _ hr ?_)
      go_ret
      obtain ⟨x1, x2, x3⟩ := HX.out
      rw [x1] at x2
      exact ⟨v', rfl, by rw [← x1]; simp; omega, x2, x3⟩
end Go.Proofs.YtakmmpbkojhmhaaGreatDoor

/-
  The document's listOf of a text in parentheses, by a contract.
-/
namespace Go.Proofs.YtakmmpbkojhmhaaGreatDoor
open Go.RowKit Go.Extern.Stop Go.Stop Go.Extern Go.Sort

theorem splitS_miss (s : Bs) (h : Lib.index s sep = -1) : Lib.split s sep = [s] := by
  unfold Lib.split; rw [Lib.count_miss h]; rfl
theorem splitS_hit (s : Bs) (i : Nat) (h : Lib.index s sep = (i : Int)) : Lib.split s sep = s.take i :: Lib.split (s.drop (i + 2)) sep := by
  unfold Lib.split
  have hc := Lib.count_hit (s := s) (sub := sep) (by decide) h
  rw [hc, Nat.add_comm 1, Lib.splitK, if_neg (by rw [h, beq_iff_eq]; omega), h]
  rfl
theorem occ_iff (m : Bs) (j : Nat) (h : j + 1 < m.length) : Lib.occAt m sep j = (m[j] == 44 && m[j + 1] == 32) := by
  unfold Lib.occAt
  rw [List.drop_eq_getElem_cons (by omega), List.drop_eq_getElem_cons h]
  show (44 == m[j] && (32 == m[j + 1] && true)) = _
  rw [Bool.and_true]
  congr 1
  · rw [Bool.eq_iff_iff, beq_iff_eq, beq_iff_eq]; exact eq_comm
  · rw [Bool.eq_iff_iff, beq_iff_eq, beq_iff_eq]; exact eq_comm
theorem occ_end (m : Bs) (j : Nat) (h : ¬ j + 1 < m.length) : Lib.occAt m sep j = false := by
  cases e : Lib.occAt m sep j with
  | false => rfl
  | true =>
    rcases Lib.occAt_room e with q | q
    · have : sep.length = 2 := rfl
      omega
    · cases q
theorem occ_drop (m : Bs) (f j : Nat) : Lib.occAt (m.drop f) sep j = Lib.occAt m sep (f + j) := by
  unfold Lib.occAt
  rw [List.drop_drop]
/-- The names between parentheses. -/
def namesIn (i : Bs) : List Bs := if i.isEmpty then [] else Lib.split i sep
theorem index_from (m : Bs) (f k : Nat) (hf : f ≤ k) (hk : k + 1 < m.length) (hno : ∀ j, f ≤ j → j < k → Lib.occAt m sep j = false) (ho : Lib.occAt m sep k = true) : Lib.index (m.drop f) sep = ((k - f : Nat) : Int) := by
  refine Lib.index_first (by simp; omega) ?_ (fun j hj => ?_)
  · rw [occ_drop, show f + (k - f) = k by omega]; exact ho
  · rw [occ_drop]; exact hno _ (by omega) (by omega)
theorem index_never (m : Bs) (f k : Nat) (hk : ¬ k + 1 < m.length) (hno : ∀ j, f ≤ j → j < k → Lib.occAt m sep j = false) : Lib.index (m.drop f) sep = -1 := by
  refine Lib.index_none (fun j _ => ?_)
  rw [occ_drop]
  by_cases q : f + j < k
  · exact hno _ (by omega) q
  · exact occ_end m _ (by omega)

theorem byte_ne {c : UInt8} {n : Nat} (h : c ≠ UInt8.ofNat n) : (((c.toNat : Int) != (n : Int)) = true) := by
  rw [bne_iff_ne]
  intro e
  apply h
  have : c.toNat = n := by omega
  rw [← this]
  simp
theorem byte_beq (c : UInt8) (n : Nat) (h : n < 256 := by decide) : (c == UInt8.ofNat n) = ((c.toNat : Int) == (n : Int)) := by
  rw [Bool.eq_iff_iff, beq_iff_eq, beq_iff_eq]
  constructor
  · rintro rfl
    simp; omega
  · intro e
    have : c.toNat = n := by omega
    rw [← this]; simp
theorem mem_take_at {l : Bs} {c : UInt8} {k : Nat} (hk : k < l.length) (a r : Bs) (hl : l = a ++ r) (hka : k < a.length) (hc : c ∉ a) : l[k] ≠ c := by
  subst hl
  rw [List.getElem_append_left hka]
  exact fun e => hc (by rw [← e]; exact List.getElem_mem hka)

set_option maxRecDepth 100000 in
set_option maxHeartbeats 4000000 in
/-- No opening one. -/
theorem listOf_no1 (s : ByteArray) (h : (40 : UInt8) ∉ s.data.toList) (hs : s.size ≤ 100000) (w : World) :
    Calls Tryz.prog 116 #[.string s] w fun e w' => e = .returned (.tuple #[.string ⟨#[]⟩, .slice none 0 0, .string ⟨#[]⟩, .bool false]) ∧ w' = w := by
  go_enter Tryz.func116, Tryz.ntmps116
  go_wp2_with fail
  go_loop [6] (fun t => ∃ k : Nat, k ≤ s.size ∧ t = .int .i64 k) (fun t => (s.size - intOf t).toNat)
  case atStart => exact ⟨0, Nat.zero_le _, rfl⟩
  case round =>
    obtain ⟨k, hk, rfl⟩ := hrel
    by_cases hlt : k < s.size
    · have hne : ((((s[k]'hlt).toNat : Int) != 40) = true) := byte_ne (n := 40) (fun e => h (by rw [show (40 : UInt8) = UInt8.ofNat 40 from rfl, ← e]; exact List.getElem_mem (l := s.data.toList) (by rw [← Lib.size_eq]; exact hlt)))
      go_wp2_with fail
      go_round
      case rel => exact ⟨k + 1, by omega, by go_num⟩
      case measure => simp [intOf]; omega
    · have hks : k = s.size := by omega
      subst hks
      go_wp2_with fail
      go_loop [7] (fun t => t = .int .i64 s.size) (fun _ => 0)
      case atStart => rfl
      case round =>
        obtain rfl := hrel
        go_wp2_with fail
        refine bodyPost_ret (v := .tuple #[.string ⟨#[]⟩, .slice none 0 0, .string ⟨#[]⟩, .bool false]) (by simp [results, Tryz.results116, go_sem]) rfl ?_
        exact ⟨rfl, rfl⟩
theorem at_mid (a r : Bs) (c : UInt8) (s : ByteArray) (hs : s.data.toList = a ++ c :: r) : ∃ h : a.length < s.size, (s[a.length]'h) = c := by
  have hz : s.size = a.length + 1 + r.length := by rw [Lib.size_eq, hs]; simp; omega
  refine ⟨by omega, ?_⟩
  show s.data.toList[a.length]'_ = c
  simp [hs]
theorem at_first (a r : Bs) (c : UInt8) (s : ByteArray) (hs : s.data.toList = a ++ r) (hc : c ∉ a) (k : Nat) (hk : k < a.length) (h : k < s.size) : (s[k]'h) ≠ c := by
  show s.data.toList[k]'_ ≠ c
  exact mem_take_at _ a r hs hk hc

set_option maxRecDepth 100000 in
set_option maxHeartbeats 4000000 in
/-- An opening one, and no closing one behind it. -/
theorem listOf_no2 (s : ByteArray) (a r : Bs) (hsl : s.data.toList = a ++ 40 :: r) (ha : (40 : UInt8) ∉ a) (hr : (41 : UInt8) ∉ r) (hs : s.size ≤ 100000) (w : World) :
    Calls Tryz.prog 116 #[.string s] w fun e w' => e = .returned (.tuple #[.string ⟨#[]⟩, .slice none 0 0, .string ⟨#[]⟩, .bool false]) ∧ w' = w := by
  obtain ⟨na, hna⟩ : ∃ n, n = a.length := ⟨_, rfl⟩
  obtain ⟨hlt0, hat⟩ := at_mid a r 40 s hsl
  have H1 : Hid (∀ k, k < na → ∀ h : k < s.size, ((((s[k]'h).toNat : Int) != 40) = true)) := fun k hk h => byte_ne (n := 40) (at_first a (40 :: r) 40 s hsl ha k (by omega) h)
  have H2 : Hid (∀ k, na ≤ k → ∀ h : k < s.size, ((((s[k]'h).toNat : Int) != 41) = true)) := fun k hk h => by
    refine byte_ne (n := 41) ?_
    show s.data.toList[k]'_ ≠ 41
    have hkl : k < (a ++ 40 :: r).length := by rw [← hsl, ← Lib.size_eq]; exact h
    have : s.data.toList[k]'(by rw [← Lib.size_eq]; exact h) = (a ++ 40 :: r)[k] := by simp [hsl]
    rw [this, List.getElem_append_right (by omega)]
    intro e
    have hm := List.getElem_mem (l := 40 :: r) (n := k - a.length) (by simp at hkl ⊢; omega)
    rw [e] at hm
    rcases List.mem_cons.1 hm with q | q
    · exact absurd q (by decide)
    · exact hr q
  rw [← hna] at hlt0
  have hat' : (((s[na]'hlt0).toNat : Int) != 40) = false := by
    have : (s[na]'hlt0) = 40 := by subst hna; exact hat
    rw [this]; rfl
  clear hat hna hsl ha hr
  go_enter Tryz.func116, Tryz.ntmps116
  go_wp2_with fail
  go_loop [6] (fun t => ∃ k : Nat, k ≤ na ∧ t = .int .i64 k) (fun t => (na - intOf t).toNat)
  case atStart => exact ⟨0, Nat.zero_le _, rfl⟩
  case round =>
    obtain ⟨k, hk, rfl⟩ := hrel
    by_cases hlt : k < na
    · have hks : k < s.size := by omega
      have hne := H1.out k hlt hks
      go_wp2_with fail
      go_round
      case rel => exact ⟨k + 1, by omega, by go_num⟩
      case measure => simp [intOf]; omega
    · have hks : k = na := by omega
      subst hks
      go_wp2_with fail
      go_loop [7] (fun t => ∃ j : Nat, k ≤ j ∧ j ≤ s.size ∧ t = .int .i64 j) (fun t => (s.size - intOf t).toNat)
      case atStart => exact ⟨k, Nat.le_refl _, by omega, rfl⟩
      case round =>
        obtain ⟨j, hj1, hj2, rfl⟩ := hrel
        by_cases hlt2 : j < s.size
        · have hne := H2.out j hj1 hlt2
          go_wp2_with fail
          go_round
          case rel => exact ⟨j + 1, by omega, by omega, by go_num⟩
          case measure => simp [intOf]; omega
        · have hjs : j = s.size := by omega
          subst hjs
          go_wp2_with fail
          refine bodyPost_ret (v := .tuple #[.string ⟨#[]⟩, .slice none 0 0, .string ⟨#[]⟩, .bool false]) (by simp [results, Tryz.results116, go_sem]) rfl ?_
          exact ⟨rfl, rfl⟩

theorem mid_out (a c : Bs) (x : UInt8) : (a ++ x :: c).drop (a.length + 1) = c := by
  rw [show a ++ x :: c = (a ++ [x]) ++ c by simp]
  have : a.length + 1 = (a ++ [x]).length := by simp
  rw [this, List.drop_left]
theorem mid_in (a i c : Bs) (x y : UInt8) : ((a ++ x :: (i ++ y :: c)).drop (a.length + 1)).take i.length = i := by
  rw [mid_out, List.take_left]

set_option maxRecDepth 100000 in
set_option maxHeartbeats 8000000 in
/-- A list in parentheses. -/
theorem listOf_yes (s : ByteArray) (a i c : Bs) (hsl : s.data.toList = a ++ 40 :: (i ++ 41 :: c)) (ha : (40 : UInt8) ∉ a) (hi : (41 : UInt8) ∉ i) (hs : s.size ≤ 100000) (w : World) :
    Calls Tryz.prog 116 #[.string s] w fun e w' => ∃ v, e = .returned (.tuple #[.string (S a), v, .string (S c), .bool true]) ∧ w'.ownsRow w.heap.size 9 1 v (namesIn i).length ((namesIn i).map strV) ∧ (namesIn i).length ≤ 100001 ∧ Below w.heap.size w w' := by
  obtain ⟨na, hna⟩ : ∃ n, n = a.length := ⟨_, rfl⟩
  obtain ⟨nb, hnb⟩ : ∃ n, n = na + 1 + i.length := ⟨_, rfl⟩
  obtain ⟨hlt0, hat⟩ := at_mid a _ 40 s hsl
  have hsl2 : s.data.toList = (a ++ 40 :: i) ++ 41 :: c := by rw [hsl]; simp
  obtain ⟨hlt1, hbt⟩ := at_mid (a ++ 40 :: i) _ 41 s hsl2
  have hbl : (a ++ 40 :: i).length = nb := by simp; omega
  have H1 : Hid (∀ k, k < na → ∀ h : k < s.size, ((((s[k]'h).toNat : Int) != 40) = true)) := fun k hk h => byte_ne (n := 40) (at_first a _ 40 s hsl ha k (by omega) h)
  have H2 : Hid (∀ k, na ≤ k → k < nb → ∀ h : k < s.size, ((((s[k]'h).toNat : Int) != 41) = true)) := fun k hk hkb h => by
    refine byte_ne (n := 41) ?_
    show s.data.toList[k]'_ ≠ 41
    have hkl : k < (a ++ 40 :: i).length := by omega
    have : s.data.toList[k]'(by rw [← Lib.size_eq]; exact h) = (a ++ 40 :: i)[k] := by
      have q : s.data.toList[k]? = (a ++ 40 :: i)[k]? := by rw [hsl2, List.getElem?_append_left hkl]
      rw [List.getElem?_eq_getElem (by rw [← Lib.size_eq]; exact h), List.getElem?_eq_getElem hkl] at q
      exact Option.some.inj q
    rw [this, List.getElem_append_right (by omega)]
    intro e
    have hm := List.getElem_mem (l := 40 :: i) (n := k - a.length) (by simp at hkl ⊢; omega)
    rw [e] at hm
    rcases List.mem_cons.1 hm with q | q
    · exact absurd q (by decide)
    · exact hi q
  rw [← hna] at hlt0
  rw [hbl] at hlt1
  have hat' : (((s[na]'hlt0).toNat : Int) != 40) = false := by
    have : (s[na]'hlt0) = 40 := by subst hna; exact hat
    rw [this]; rfl
  have hbt' : (((s[nb]'hlt1).toNat : Int) != 41) = false := by
    have : (s[nb]'hlt1) = 41 := by subst hbl; exact hbt
    rw [this]; rfl
  have hlow : na + 1 ≤ nb := by omega
  have hm0 : s.extract (na + 1) nb = S i := by
    rw [extract_S, hsl, show nb - (na + 1) = i.length by omega, hna, mid_in]
  have hx1 : s.extract 0 na = S a := by
    rw [extract_S, hsl, hna]; simp
  have hx2 : s.extract (nb + 1) s.size = S c := by
    rw [extract_S, hsl2, show nb + 1 = (a ++ 40 :: i).length + 1 by omega, mid_out, List.take_of_length_le]
    rw [Lib.size_eq, hsl2]; simp; omega
  have HX : Hid (s.extract 0 na = S a ∧ s.extract (nb + 1) s.size = S c) := ⟨hx1, hx2⟩
  obtain ⟨m, hm⟩ : ∃ m, m = S i := ⟨_, rfl⟩
  have hml : m.data.toList = i := by rw [hm, S_data]
  have hmz : m.size = i.length := by rw [hm, S_size]
  have hmz' : m.size ≤ 100000 := by omega
  have hm1 : s.extract (na + 1) nb = m := by rw [hm0, hm]
  have HE : Hid (s.extract (na + 1) nb = m) := hm1
  have HML : Hid (m.data.toList = i) := hml
  clear hat hbt hm0 hm hmz hml hx1 hx2 hm1 hna hnb hbl hsl hsl2 ha hi
  go_enter Tryz.func116, Tryz.ntmps116
  go_wp2_with fail
  go_loop [6] (fun t => ∃ k : Nat, k ≤ na ∧ t = .int .i64 k) (fun t => (na - intOf t).toNat)
  case atStart => exact ⟨0, Nat.zero_le _, rfl⟩
  case round =>
    obtain ⟨k, hk, rfl⟩ := hrel
    by_cases hlt : k < na
    · have hks : k < s.size := by omega
      have hne := H1.out k hlt hks
      go_wp2_with fail
      go_round
      case rel => exact ⟨k + 1, by omega, by go_num⟩
      case measure => simp [intOf]; omega
    · obtain rfl : k = na := by omega
      go_wp2_with fail
      go_loop [7] (fun t => ∃ j : Nat, k ≤ j ∧ j ≤ nb ∧ t = .int .i64 j) (fun t => (nb - intOf t).toNat)
      case atStart => exact ⟨k, Nat.le_refl _, by omega, rfl⟩
      case round =>
        obtain ⟨j, hj1, hj2, rfl⟩ := hrel
        by_cases hlt2 : j < nb
        · have hjs : j < s.size := by omega
          have hne := H2.out j hj1 hlt2 hjs
          go_wp2_with fail
          go_round
          case rel => exact ⟨j + 1, by omega, by omega, by go_num⟩
          case measure => simp [intOf]; omega
        · obtain rfl : j = nb := by omega
          have hjs : (j : Int) < s.size := by omega
          go_wp2_with fail
          rw [HE.out]
          clear H1 H2 hat' hbt' hlt hlt2 hk hj2
          go_loopw [9, 10, 11] (fun u f t wr => ∃ (q g : Nat) (ws : List Bs), q ≤ m.size ∧ g ≤ q ∧ t = .int .i64 q ∧ f = .int .i64 g ∧ ws.length ≤ q ∧ ws ++ Lib.split (i.drop g) sep = Lib.split i sep ∧ (∀ x, g ≤ x → x < q → Lib.occAt i sep x = false) ∧ wr.ownsRow w.heap.size 9 1 u ws.length (ws.map strV) ∧ Below w.heap.size w wr) (fun _ _ t _ => (m.size - intOf t).toNat)
          case atStart => exact ⟨0, 0, [], Nat.zero_le _, Nat.le_refl _, rfl, rfl, Nat.le_refl _, rfl, (fun x _ h => absurd h (Nat.not_lt_zero _)), World.ownsRow_nil _ _ _ _, Below.refl _ _⟩
          case round =>
            obtain ⟨q, g, ws, hq, hg, rfl, rfl, hwl, hsp, hno, ho, hB⟩ := hrel
            have HSP : Hid (ws ++ Lib.split (i.drop g) sep = Lib.split i sep ∧ ∀ x, g ≤ x → x < q → Lib.occAt i sep x = false) := ⟨hsp, hno⟩
            have HO : Hid (wr.ownsRow w.heap.size 9 1 u9 ws.length (ws.map strV)) := ho
            clear hsp hno ho
            have hsz : w.heap.size ≤ wr.heap.size := hB.size
            have hmi : m.size = i.length := by rw [Lib.size_eq, HML.out]
            have HMI : Hid (m.size = i.length) := hmi
            clear hmi
            by_cases hlt : q + 1 < m.size
            · have hq0 : q < m.size := by omega
              have hqi : (q : Int) + 1 < m.size := by omega
              have hil : q + 1 < i.length := by rw [← HMI.out]; exact hlt
              have hoc : Lib.occAt i sep q = ((((m[q]'hq0).toNat : Int) == 44) && (((m[q + 1]'hlt).toNat : Int) == 32)) := by
                rw [occ_iff i q hil]
                have e1 : (m[q]'hq0) = i[q] := by
                  show m.data.toList[q]'_ = _
                  simp [HML.out]
                have e2 : (m[q + 1]'hlt) = i[q + 1] := by
                  show m.data.toList[q + 1]'_ = _
                  simp [HML.out]
                rw [e1, e2]
                congr 1
                · exact byte_beq _ 44
                · exact byte_beq _ 32
              have HOC : Hid (Lib.occAt i sep q = ((((m[q]'hq0).toNat : Int) == 44) && (((m[q + 1]'hlt).toNat : Int) == 32))) := hoc
              clear hoc
              cases hc1 : (((m[q]'hq0).toNat : Int) == 44) with
              | false =>
                have HN : Hid (∀ x, g ≤ x → x < q + 1 → Lib.occAt i sep x = false) := fun x h1 h2 => by
                  by_cases e : x = q
                  · rw [e, HOC.out, hc1]; rfl
                  · exact HSP.out.2 x h1 (by omega)
                clear hil
                go_wp2_with fail
                go_roundw
                case rel => exact ⟨q + 1, g, ws, by omega, by omega, by go_num, rfl, by omega, HSP.out.1, HN.out, HO.out, hB⟩
                case measure => simp [intOf]; omega
              | true =>
                cases hc2 : (((m[q + 1]'hlt).toNat : Int) == 32) with
                | false =>
                  have HN : Hid (∀ x, g ≤ x → x < q + 1 → Lib.occAt i sep x = false) := fun x h1 h2 => by
                    by_cases e : x = q
                    · rw [e, HOC.out, hc2, Bool.and_false]
                    · exact HSP.out.2 x h1 (by omega)
                  clear hil
                  go_wp2_with fail
                  go_roundw
                  case rel => exact ⟨q + 1, g, ws, by omega, by omega, by go_num, rfl, by omega, HSP.out.1, HN.out, HO.out, hB⟩
                  case measure => simp [intOf]; omega
                | true =>
                  obtain ⟨v', w2, hr, ho2, hB2⟩ := append_str wr w.heap.size u9 ws HO.out hsz (by omega) ((m.data.toList.drop g).take (q - g)) 39
                  rw [← extract_S] at hr
                  have HX2 : Hid ((ws ++ [(m.data.toList.drop g).take (q - g)]) ++ Lib.split (i.drop (q + 2)) sep = Lib.split i sep ∧ w2.ownsRow w.heap.size 9 1 v' (ws ++ [(m.data.toList.drop g).take (q - g)]).length ((ws ++ [(m.data.toList.drop g).take (q - g)]).map strV) ∧ Below w.heap.size w w2) := by
                    refine ⟨?_, ho2, hB.trans hB2⟩
                    rw [← HSP.out.1, splitS_hit _ _ (index_from i g q hg hil HSP.out.2 (by rw [HOC.out, hc1, hc2]; rfl)), HML.out, List.drop_drop, show g + (q - g + 2) = q + 2 by omega]
                    simp
                  clear ho2 hB2 hil
                  go_wp2_with (at_builtin; refine Lib.wpList_append_run _ rfl _ _ _ _ rfl _ _ rfl rfl _ _ hr ?_)
                  go_roundw
                  case rel => exact ⟨q + 2, q + 2, ws ++ [(m.data.toList.drop g).take (q - g)], by omega, Nat.le_refl _, by go_num, by go_num, by simp; omega, HX2.out.1, (fun x h1 h2 => absurd h2 (by omega)), HX2.out.2.1, HX2.out.2.2⟩
                  case measure => simp [intOf]; omega
            · have hqi : ¬ (q : Int) + 1 < m.size := by omega
              have hil : ¬ q + 1 < i.length := by rw [← HMI.out]; exact hlt
              obtain ⟨D, hD⟩ : ∃ D, (m.toList == []) = D := ⟨_, rfl⟩
              have hlast := splitS_miss _ (index_never i g q hil HSP.out.2)
              have hgm : g ≤ m.size := by omega
              have hall : ws ++ [i.drop g] = Lib.split i sep := by rw [← HSP.out.1, hlast]
              have HALL : Hid (ws ++ [i.drop g] = Lib.split i sep) := hall
              clear hlast hil hall
              cases D with
              | true =>
                have hi0 : i = [] := by
                  have := beq_iff_eq.1 hD
                  rw [Lib.toList_data, HML.out] at this
                  exact this
                have hn0 : namesIn i = [] := by rw [hi0]; rfl
                have HN0 : Hid (namesIn i = [] ∧ ws = []) := ⟨hn0, List.length_eq_zero_iff.1 (by have h1 : m.size = 0 := by { rw [HMI.out, hi0]; rfl }; omega)⟩
                clear hi0 hn0
                go_wp2_with fail
                go_quiet (fail)
                go_wp2_with fail
                refine bodyPost_ret (v := .tuple #[.string (s.extract 0 k), u9, .string (s.extract (j + 1) s.size), .bool true]) (by simp [results, Tryz.results116, go_sem]) rfl ?_
                refine ⟨u9, by rw [HX.out.1, HX.out.2], ?_, by rw [HN0.out.1]; simp, below_drewN hB _⟩
                have := owns_below HO.out (below_drewN (Below.refl _ _) nq)
                rw [HN0.out.2] at this
                rw [HN0.out.1]; exact this
              | false =>
                have hne : i.isEmpty = false := by
                  cases e : i with
                  | nil =>
                    have : m.toList = [] := by rw [Lib.toList_data, HML.out, e]
                    rw [this] at hD; cases hD
                  | cons x r => rfl
                obtain ⟨v', w2, hr, ho2, hB2⟩ := append_str wr w.heap.size u9 ws HO.out hsz (by omega) ((m.data.toList.drop g).take (m.size - g)) 39
                rw [← extract_S] at hr
                have hlast : (m.data.toList.drop g).take (m.size - g) = i.drop g := by
                  rw [HML.out]
                  exact List.take_of_length_le (by rw [HMI.out]; simp)
                rw [hlast, HALL.out] at ho2
                have hnames : namesIn i = Lib.split i sep := by unfold namesIn; rw [hne]; rfl
                have HX2 : Hid (w2.ownsRow w.heap.size 9 1 v' (namesIn i).length ((namesIn i).map strV) ∧ (namesIn i).length ≤ 100001 ∧ Below w.heap.size w w2) := by
                  refine ⟨by rw [hnames]; exact ho2, ?_, hB.trans hB2⟩
                  rw [hnames, ← HALL.out]; simp; omega
                clear ho2 hB2 hlast hne hnames
                go_wp2_with (at_builtin; refine Lib.wpList_append_run _ rfl _ _ _ _ rfl _ _ rfl rfl _ _ hr ?_)
                go_quiet (fail)
                go_wp2_with fail
                refine bodyPost_ret (v := .tuple #[.string (s.extract 0 k), v', .string (s.extract (j + 1) s.size), .bool true]) (by simp [results, Tryz.results116, go_sem]) rfl ?_
                refine ⟨v', by rw [HX.out.1, HX.out.2], owns_below HX2.out.1 (below_drewN (Below.refl _ _) nq), HX2.out.2.1, below_drewN HX2.out.2.2 _⟩
/-- What listOf tells: the document's answer is that of the plain data. -/
def listF (l : Bs) : Bool := (Lib.cut l [40]).2.2 && (Lib.cut (Lib.cut l [40]).2.1 [41]).2.2
theorem refListOf_any (l : Bs) (w : World) (hs : l.length ≤ 100000) :
    Calls Tryz.prog 116 #[.string (S l)] w fun e w' => (listF l = false ∧ e = .returned (.tuple #[.string ⟨#[]⟩, .slice none 0 0, .string ⟨#[]⟩, .bool false]) ∧ w' = w) ∨
      (listF l = true ∧ ∃ v, e = .returned (.tuple #[.string (S (listN l)), v, .string (S (listB l)), .bool true]) ∧ w'.ownsRow w.heap.size 9 1 v (listL l).length ((listL l).map strV) ∧ (listL l).length ≤ 100001 ∧ Below w.heap.size w w') := by
  have hz : (S l).size ≤ 100000 := by rw [S_size]; exact hs
  rcases split_first 40 l with h | ⟨a, r, hl, ha⟩
  · refine (listOf_no1 (S l) (by rw [S_data]; exact h) hz w).mono fun e w' ⟨he, hw⟩ => Or.inl ⟨?_, he, hw⟩
    unfold listF
    rw [cut_no 40 [] l h]; rfl
  · have hc1 : Lib.cut l [40] = (a, r, true) := by
      have := cut_at 40 [] a r ha
      rw [hl]; simpa using this
    rcases split_first 41 r with h | ⟨i, c, hr, hi⟩
    · refine (listOf_no2 (S l) a r (by rw [S_data]; exact hl) ha h hz w).mono fun e w' ⟨he, hw⟩ => Or.inl ⟨?_, he, hw⟩
      unfold listF
      rw [hc1]
      show (true && (Lib.cut r [41]).2.2) = false
      rw [cut_no 41 [] r h]; rfl
    · have hc2 : Lib.cut r [41] = (i, c, true) := by
        have := cut_at 41 [] i c hi
        rw [hr]; simpa using this
      have e1 : listN l = a := by unfold listN; rw [hc1]
      have e2 : listB l = c := by unfold listB; rw [hc1]; show (Lib.cut r [41]).2.1 = c; rw [hc2]
      have e3 : listL l = namesIn i := by
        unfold listL listI; rw [hc1]
        show (if ((Lib.cut r [41]).1).isEmpty then [] else Lib.split (Lib.cut r [41]).1 sep) = _
        rw [hc2]; rfl
      refine (listOf_yes (S l) a i c (by rw [S_data, hl, hr]) ha hi hz w).mono fun e w' ⟨v, he, h1, h2, h3⟩ => Or.inr ⟨?_, v, ?_, ?_, ?_, h3⟩
      · unfold listF
        rw [hc1]
        show (true && (Lib.cut r [41]).2.2) = true
        rw [hc2]; rfl
      · rw [e1, e2]; exact he
      · rw [e3]; exact h1
      · rw [e3]; exact h2
end Go.Proofs.YtakmmpbkojhmhaaGreatDoor
