/-
  The document's cuts of a text: Cut of package fingerpostref1, by a contract.
-/
import Derived.Test.YtgmjmadacmgnkaaGreatDoorRefD
import Derived.Test.YtgmjmadacmgnkaaGreatDoorReadB
import Derived.Test.YtgmjmadacmgnkaaGreatDoorText
namespace Go.Proofs.YtgmjmadacmgnkaaGreatDoor
open Go.RowKit Go.Extern.Stop Go.Stop Go.Extern Go.Sort

/-- One text more behind texts that are owned. -/
theorem run_append_str (w : World) (base : Nat) (v : Value) (n : Nat) (xs : List Value) (hown : w.ownsRow base 9 1 v n xs) (x : ByteArray)
    (hbd : n ≤ 1000000) (hbase : base ≤ w.heap.size) (ty : TypeId) :
    ∃ v' w', (Builtin.append_ #[51, 51] ty #[v, .slice (some ⟨w.heap.size, 0, none⟩) 1 1]).run Tryz.prog (w.alloc (.cells #[.string x] 9)) = .ok v' w' ∧ w'.ownsRow base 9 1 v' (n + 1) (xs ++ [.string x]) ∧ Below base w w' := by
  obtain ⟨i0, hi, hz0, hz1, hz2⟩ := info_parts Tryz.infoString
  have ho2 := hown.alloc (.cells #[.string x] 9)
  have hsz : base ≤ (w.alloc (.cells #[.string x] 9)).heap.size := by simp; omega
  obtain ⟨v', w', h1, h2, h3, _⟩ := run_append_own (P := Tryz.prog) (w.alloc (.cells #[.string x] 9)) base 51 ty 9 i0 (.string ⟨#[]⟩) 1 16 Tryz.underlying51 hi hz0 hz1 hz2 rfl (by decide) v n xs ho2 ⟨w.heap.size, 0, none⟩ 1 1 [.string x] rfl
    (fun j u hj => by
      match j, hj with
      | 0, hj => simp at hj; subst hj; simp [Addr.add])
    (fun u hu => by rw [List.mem_singleton.1 hu]; rfl) (by unfold maxLen; omega) (by omega) hsz
  refine ⟨v', w', h1, h2, ?_⟩
  refine ((Below.refl base w).alloc hbase _).trans ((Below.refl base _).grown h3 hsz (fun k hk => ?_))
  rcases hown.2 with ⟨rfl, _⟩ | ⟨g, cap, cur, rfl, hbg, _⟩
  · cases hk
  · have : g = k := by simpa [Value.ownBlock] using hk
    omega

theorem split_step (l : List UInt8) (f k : Nat) (hf : f ≤ k) (hk : k < l.length) (hn : (44 : UInt8) ∉ (l.drop f).take (k - f)) (hc : l[k] = 44) : splitC 44 (l.drop f) = (l.drop f).take (k - f) :: splitC 44 (l.drop (k + 1)) := by
  have e : l.drop f = (l.drop f).take (k - f) ++ 44 :: l.drop (k + 1) := by
    have h1 : (l.drop f).drop (k - f) = l.drop k := by rw [List.drop_drop]; congr 1; omega
    have h2 : l.drop k = l[k] :: l.drop (k + 1) := (List.drop_eq_getElem_cons hk)
    rw [← hc, ← h2, ← h1, List.take_append_drop]
  have h3 := splitC_at 44 ((l.drop f).take (k - f)) (l.drop (k + 1)) hn
  rw [← e] at h3
  exact h3
theorem split_last (l : List UInt8) (f : Nat) (hn : (44 : UInt8) ∉ (l.drop f).take (l.length - f)) : splitC 44 (l.drop f) = [(l.drop f).take (l.length - f)] := by
  have e : (l.drop f).take (l.length - f) = l.drop f := List.take_of_length_le (by simp)
  rw [e] at hn ⊢
  exact splitC_none 44 _ hn
theorem take_more (l : List UInt8) (f k : Nat) (hf : f ≤ k) (hk : k < l.length) : (l.drop f).take (k + 1 - f) = (l.drop f).take (k - f) ++ [l[k]] := by
  have h1 : k + 1 - f = (k - f) + 1 := by omega
  have h2 : k - f < (l.drop f).length := by simp; omega
  rw [h1, List.take_succ_eq_append_getElem h2]
  congr 2
  rw [List.getElem_drop]
  congr 1
  omega

set_option maxRecDepth 100000 in
set_option maxHeartbeats 2000000 in
theorem cut_any (s : ByteArray) (w : World) (hs : s.size ≤ 100000) :
    Calls Tryz.prog 36 #[.string s, .int .u8 44] w fun e w' => ∃ (v' : Value) (ws : List ByteArray), e = .returned v' ∧ ws.map (·.data.toList) = splitC 44 s.data.toList ∧ ws.length ≤ 100001 ∧ w'.ownsRow w.heap.size 9 1 v' ws.length (ws.map Value.string) ∧ Below w.heap.size w w' := by
  go_enter Tryz.func36, Tryz.ntmps36
  go_wp2_with fail
  go_loopw [5, 6, 7] (fun u f t wr => ∃ (k g : Nat) (ws : List ByteArray), k ≤ s.size ∧ g ≤ k ∧ t = .int .i64 k ∧ f = .int .i64 g ∧ ws.length ≤ k ∧ ws.map (·.data.toList) ++ splitC 44 (s.data.toList.drop g) = splitC 44 s.data.toList ∧ (44 : UInt8) ∉ (s.data.toList.drop g).take (k - g) ∧ wr.ownsRow w.heap.size 9 1 u ws.length (ws.map Value.string) ∧ Below w.heap.size w wr) (fun _ _ t _ => (s.size - intOf t).toNat)
  case atStart => exact ⟨0, 0, [], Nat.zero_le _, Nat.le_refl _, rfl, rfl, Nat.le_refl _, rfl, (fun h => by simp at h), World.ownsRow_nil _ _ _ _, Below.refl _ _⟩
  case round =>
    obtain ⟨k, g, ws, hk, hg, rfl, rfl, hwl, hsp, hno, ho, hB⟩ := hrel
    have HSP : Hid (ws.map (·.data.toList) ++ splitC 44 (s.data.toList.drop g) = splitC 44 s.data.toList ∧ (44 : UInt8) ∉ (s.data.toList.drop g).take (k - g)) := ⟨hsp, hno⟩
    have HO : Hid (wr.ownsRow w.heap.size 9 1 u5 ws.length (ws.map Value.string)) := ho
    clear hsp hno ho
    by_cases hlt : k < s.size
    · have hkl : k < s.data.toList.length := by rw [← Lib.size_eq]; exact hlt
      have hsk : (s[k]'hlt) = s.data.toList[k] := rfl
      cases hcc : (((s[k]'hlt).toNat : Int) == 44) with
      | true =>
        have hbyte : (s[k]'hlt) = 44 := by
          have h2 : (s[k]'hlt).toNat = 44 := by have := beq_iff_eq.1 hcc; omega
          exact UInt8.toNat_inj.1 (by simpa using h2)
        have hsz : w.heap.size ≤ wr.heap.size := hB.size
        obtain ⟨v', w2, hr, ho2, hB2⟩ := run_append_str wr w.heap.size u5 ws.length (ws.map Value.string) HO.out (s.extract g k) (by omega) hsz 51
        have HX : Hid ((ws ++ [s.extract g k]).map (·.data.toList) ++ splitC 44 (s.data.toList.drop (k + 1)) = splitC 44 s.data.toList ∧ w2.ownsRow w.heap.size 9 1 v' (ws ++ [s.extract g k]).length ((ws ++ [s.extract g k]).map Value.string) ∧ Below w.heap.size w w2) := by
          refine ⟨?_, ?_, hB.trans hB2⟩
          · rw [← HSP.out.1, split_step _ g k hg hkl HSP.out.2 (by rw [← hsk]; exact hbyte), List.map_append]
            simp
          · simpa using ho2
        clear ho2 hB2 hkl hsk hbyte
        go_wp2_with (at_builtin; refine Lib.wpList_append_run _ rfl _ _ _ _ rfl _ _ rfl rfl _ _ hr ?_)
        go_roundw
        case rel => exact ⟨k + 1, k + 1, ws ++ [s.extract g k], by omega, Nat.le_refl _, by go_num, by go_num, by simp; omega, HX.out.1, (fun h => by simp at h), HX.out.2.1, HX.out.2.2⟩
        case measure => simp [intOf]; omega
      | false =>
        have HNB : Hid ((44 : UInt8) ∉ (s.data.toList.drop g).take (k + 1 - g)) := by
          show ¬ _
          rw [take_more _ g k hg hkl, List.mem_append, List.mem_singleton]
          rintro (h | h)
          · exact HSP.out.2 h
          · have : ((s[k]'hlt).toNat : Int) ≠ 44 := beq_eq_false_iff_ne.1 hcc
            rw [hsk, ← h] at this
            exact this rfl
        clear hkl hsk
        go_wp2_with fail
        go_roundw
        case rel => exact ⟨k + 1, g, ws, by omega, by omega, by go_num, rfl, by omega, HSP.out.1, HNB.out, HO.out, hB⟩
        case measure => simp [intOf]; omega
    · have hks : k = s.data.toList.length := by rw [← Lib.size_eq]; omega
      have hsz : w.heap.size ≤ wr.heap.size := hB.size
      obtain ⟨v', w2, hr, ho2, hB2⟩ := run_append_str wr w.heap.size u5 ws.length (ws.map Value.string) HO.out (s.extract g s.size) (by omega) hsz 51
      have HX : Hid ((ws ++ [s.extract g s.size]).map (·.data.toList) = splitC 44 s.data.toList ∧ w2.ownsRow w.heap.size 9 1 v' (ws ++ [s.extract g s.size]).length ((ws ++ [s.extract g s.size]).map Value.string) ∧ Below w.heap.size w w2) := by
        refine ⟨?_, ?_, hB.trans hB2⟩
        · have h2 := HSP.out.2
          rw [hks] at h2
          rw [← HSP.out.1, split_last _ g h2, List.map_append, Lib.size_eq s]
          simp
        · simpa using ho2
      clear ho2 hB2 hks
      have hgs : g ≤ s.size := by omega
      go_wp2_with (at_builtin; refine Lib.wpList_append_run _ rfl _ _ _ _ rfl _ _ rfl rfl _ _ hr ?_)
      go_ret
      exact ⟨v', ws ++ [s.extract g s.size], rfl, HX.out.1, by simp; omega, HX.out.2.1, HX.out.2.2⟩
end Go.Proofs.YtgmjmadacmgnkaaGreatDoor
