/-
  Package set: readList at words, Read, by contracts.
-/
import Derived.Test.YtgmjmadacmgnkaaGreatDoorReadC
namespace Go.Proofs.YtgmjmadacmgnkaaGreatDoor
open Go.RowKit Go.Extern.Stop Go.Stop Go.Extern Go.Sort

abbrev MaxLen (w : World) : Prop := ∃ m, w.cell? ⟨13, 0, none⟩ = some (.int .i64 m)
theorem MaxLen.below {w w' : World} (h : MaxLen w) (hb : Below w.heap.size w w') : MaxLen w' := by
  obtain ⟨m, hm⟩ := h
  exact ⟨m, cell_keep hb hm⟩

def WordOk (l : List UInt8) : Prop := HeadOk l ∧ AllD l

/-- strings.Split at a comma. -/
theorem split_comma (I : List UInt8) (w : World) (hI : I.length ≤ 1000000) (hm : MaxLen w) :
    ∃ ws : List ByteArray, ws.map (·.data.toList) = splitC 44 I ∧ ws.length ≤ 1000002 ∧ Hid (Calls Tryz.prog 52 #[.string ⟨I.toArray⟩, .string ⟨#[44]⟩] w fun e w' => e = .returned (.slice (some ⟨w.heap.size, 0, none⟩) ws.length ws.length) ∧ w' = w.alloc (.cells (ws.map Value.string).toArray 9)) := by
  obtain ⟨m, hm⟩ := hm
  have hsz : (⟨I.toArray⟩ : ByteArray).size = I.length := by rw [Lib.size_eq]
  have HS := Tryz.strings_Split ⟨I.toArray⟩ ⟨#[44]⟩ m w (by rw [hsz]; omega) hm (Nat.le_refl 1)
  have hl := Lib.splitB_all ⟨#[44]⟩ (Nat.le_refl 1) 0 _ (⟨I.toArray⟩ : ByteArray) rfl
  have hc := Lib.countB_le ⟨#[44]⟩ (Nat.le_refl 1) _ (⟨I.toArray⟩ : ByteArray) (Nat.le_refl _)
  refine ⟨Lib.splitB ⟨#[44]⟩ 0 (Lib.countB ⟨I.toArray⟩ ⟨#[44]⟩) ⟨I.toArray⟩, ?_, ?_, ?_⟩
  · rw [splitB_eq 44 _ _ rfl]
  · rw [hl]; omega
  · rw [hl]; exact HS

theorem word_cell (w : World) (ws : List ByteArray) (B : Nat) (hB : B = w.heap.size) (k : Nat) (hk : k < ws.length) : (w.alloc (.cells (ws.map Value.string).toArray 9)).cell? ⟨B, 0 + k, none⟩ = some (.string ws[k]) := by
  subst hB
  rw [World.cell?_alloc_at _ _ _ _ rfl]
  simp [hk]

/-- What the words so far come to. -/
def vals (ws : List ByteArray) : List Int := ws.map fun s => val s.data.toList
theorem vals_snoc (ws : List ByteArray) (k : Nat) (h : k < ws.length) : vals (ws.take (k + 1)) = vals (ws.take k) ++ [val ws[k].data.toList] := by
  unfold vals
  rw [List.take_succ_eq_append_getElem h, List.map_append]; rfl
theorem vals_length (ws : List ByteArray) : (vals ws).length = ws.length := by unfold vals; exact List.length_map ..

set_option maxRecDepth 100000 in
set_option maxHeartbeats 2000000 in
theorem rl_words (s : ByteArray) (I : List UInt8) (w : World) (hs : s.size ≤ 1000000) (h : s.data.toList = 123 :: (I ++ [125])) (hne : I ≠ []) (hm : MaxLen w) (hok : ∀ x ∈ splitC 44 I, WordOk x) :
    Calls Tryz.prog 35 #[.string s] w fun e w' => ∃ v', e = .returned (.tuple #[v', .bool true]) ∧ IsInts w' v' ((splitC 44 I).map val) ∧ Below w.heap.size w w' := by
  obtain ⟨r, H1, H2⟩ := cuts s I w hs h
  have hIl : I.length ≤ 1000000 := by
    have : s.size = I.length + 2 := by rw [Lib.size_eq, h]; simp
    omega
  obtain ⟨ws, hws, hwl, H3⟩ := split_comma I w hIl hm
  have HG : Hid (∀ k (hk : k < ws.length), WordOk ws[k].data.toList) := fun k hk => hok _ (by
    rw [← hws]; exact List.mem_map.2 ⟨ws[k], List.getElem_mem hk, rfl⟩)
  have HF : Hid (vals ws = (splitC 44 I).map val) := by
    show vals ws = _
    rw [← hws, List.map_map]; rfl
  clear hok
  have e0 : (⟨I.toArray⟩ : ByteArray).toList.isEmpty = false := by
    rw [Lib.toList_data]
    show I.toArray.toList.isEmpty = false
    rw [List.toList_toArray]
    cases I with
    | nil => exact absurd rfl hne
    | cons b l => rfl
  clear h hne hm hIl hws
  obtain ⟨t, ht⟩ : ∃ t : ByteArray, t = ⟨I.toArray⟩ := ⟨_, rfl⟩
  rw [← ht] at H2 H3 e0
  clear ht
  obtain ⟨n, hn⟩ : ∃ n, n = ws.length := ⟨_, rfl⟩
  rw [← hn] at H3 hwl
  have HN : Hid (n = ws.length) := hn
  clear hn
  go_enter Tryz.func35, Tryz.ntmps35
  go_wp2_with fail
  refine H1.out.mono ?_
  rintro e w1 ⟨rfl, hw⟩
  obtain rfl := hw.symm
  go_wp2_with fail
  refine H2.out.mono ?_
  rintro e w1 ⟨rfl, hw⟩
  obtain rfl := hw.symm
  go_wp2_with fail
  refine H3.out.mono ?_
  rintro e w1 ⟨rfl, hw1⟩
  have hcell : ∀ k (hk : k < ws.length), w1.cell? ⟨w.heap.size, 0 + k, none⟩ = some (.string ws[k]) := fun k hk => by rw [hw1]; exact word_cell w ws _ rfl k hk
  have HC : Hid (∀ k (hk : k < ws.length), w1.cell? ⟨w.heap.size, 0 + k, none⟩ = some (.string ws[k])) := hcell
  have hB1 : Below w.heap.size w w1 := by rw [hw1]; exact (Below.refl _ _).alloc (Nat.le_refl _) _
  have hz1 : w1.heap.size = w.heap.size + 1 := by rw [hw1]; simp
  have HZ : Hid (w1.heap.size = w.heap.size + 1) := hz1
  clear hw1 hcell hz1
  go_wp2_with fail
  go_loopw [8, 34] (fun u t wr => ∃ k : Nat, k ≤ n ∧ t = .int .i64 k ∧ wr.ownsRow w1.heap.size 3 1 u (vals (ws.take k)).length ((vals (ws.take k)).map (Value.int .i64)) ∧ Below w1.heap.size w1 wr) (fun _ t _ => (n - intOf t).toNat)
  case atStart => exact ⟨0, Nat.zero_le _, rfl, World.ownsRow_nil _ _ _ _, Below.refl _ _⟩
  case round =>
    obtain ⟨k, hk, rfl, ho, hB⟩ := hrel
    have HO : Hid (wr.ownsRow w1.heap.size 3 1 u8 (vals (ws.take k)).length ((vals (ws.take k)).map (Value.int .i64))) := ho
    have hlen : (vals (ws.take k)).length ≤ k := by rw [vals_length]; exact List.length_take_le _ _
    clear ho
    by_cases hlt : k < n
    · have hkl : k < ws.length := by rw [← HN.out]; exact hlt
      have e1 := cell_keep hB (HC.out k hkl)
      rw [Nat.zero_add] at e1
      obtain ⟨x, hx⟩ : ∃ x, x = ws[k] := ⟨_, rfl⟩
      rw [← hx] at e1
      have HX : Hid (∃ hk : k < ws.length, x = ws[k]) := ⟨hkl, hx⟩
      have HW : Hid (WordOk x.data.toList) := by
        show WordOk _
        rw [hx]; exact HG.out k hkl
      clear hx hkl
      go_wp2_with fail
      refine (rn_ok x wr HW.out.1 HW.out.2).mono ?_
      rintro e w2 ⟨rfl, hw⟩
      obtain rfl := hw.symm
      obtain ⟨z, hz⟩ : ∃ z, z = val x.data.toList := ⟨_, rfl⟩
      rw [← hz]
      have HV : Hid (z = val x.data.toList) := hz
      clear hz
      have ho2 : (wr.alloc (.cells #[.int .i64 z] 3)).ownsRow w1.heap.size 3 1 u8 (vals (ws.take k)).length ((vals (ws.take k)).map (Value.int .i64)) := HO.out.alloc _
      have hsz : w1.heap.size ≤ (wr.alloc (.cells #[.int .i64 z] 3)).heap.size := by have := hB.size; simp; omega
      obtain ⟨v', w3, hr, ho3, hg⟩ := run_append_ints (wr.alloc (.cells #[.int .i64 z] 3)) w1.heap.size u8 _ _ ho2 (.slice (some ⟨wr.heap.size, 0, none⟩) 1 1) [z] (isInts_of_cells rfl (fun j hj => by
        obtain rfl : j = 0 := by simpa using hj
        simp)) (by simp; omega) hsz 22
      have hB3 : Below w1.heap.size w1 w3 := (hB.alloc hB.size _).trans (below_of_grown hg hsz ho2 (Nat.le_refl _))
      have HY : Hid (w3.ownsRow w1.heap.size 3 1 v' (vals (ws.take (k + 1))).length ((vals (ws.take (k + 1))).map (Value.int .i64)) ∧ Below w1.heap.size w1 w3) := by
        refine ⟨?_, hB3⟩
        obtain ⟨hkl, hx⟩ := HX.out
        rw [vals_snoc ws k hkl, ← hx, ← HV.out]
        simpa using ho3
      clear ho2 ho3 hg hB3
      go_wp2_with (at_builtin; refine Lib.wpList_append_run _ rfl _ _ _ _ rfl _ _ rfl rfl _ _ hr ?_)
      go_roundw
      case rel => exact ⟨k + 1, hlt, by go_num, HY.out.1, HY.out.2⟩
      case measure => simp [intOf]; omega
    · go_wp2_with fail
      go_ret2
      refine ⟨u8, rfl, ?_, hB1.trans (hB.mono hB1.size)⟩
      have hkn : k = ws.length := by rw [← HN.out]; omega
      have := isInts_of_owns HO.out
      rw [hkn, List.take_length, HF.out] at this
      exact this

set_option maxRecDepth 100000 in
set_option maxHeartbeats 2000000 in
theorem rl_bad (s : ByteArray) (I : List UInt8) (w : World) (hs : s.size ≤ 1000000) (h : s.data.toList = 123 :: (I ++ [125])) (hne : I ≠ []) (hm : MaxLen w) (hbad : ¬ ∀ x ∈ splitC 44 I, WordOk x) :
    Calls Tryz.prog 35 #[.string s] w fun e w' => e = .returned (.tuple #[.slice none 0 0, .bool false]) ∧ Below w.heap.size w w' := by
  obtain ⟨r, H1, H2⟩ := cuts s I w hs h
  have hIl : I.length ≤ 1000000 := by
    have : s.size = I.length + 2 := by rw [Lib.size_eq, h]; simp
    omega
  obtain ⟨ws, hws, hwl, H3⟩ := split_comma I w hIl hm
  have HG : Hid (¬ ∀ k (hk : k < ws.length), WordOk ws[k].data.toList) := fun hall => hbad (fun x hx => by
    rw [← hws] at hx
    obtain ⟨y, hy, rfl⟩ := List.mem_map.1 hx
    obtain ⟨k, hk, rfl⟩ := List.mem_iff_getElem.1 hy
    exact hall k hk)
  clear hbad
  have e0 : (⟨I.toArray⟩ : ByteArray).toList.isEmpty = false := by
    rw [Lib.toList_data]
    show I.toArray.toList.isEmpty = false
    rw [List.toList_toArray]
    cases I with
    | nil => exact absurd rfl hne
    | cons b l => rfl
  clear h hne hm hIl hws
  obtain ⟨t, ht⟩ : ∃ t : ByteArray, t = ⟨I.toArray⟩ := ⟨_, rfl⟩
  rw [← ht] at H2 H3 e0
  clear ht
  obtain ⟨n, hn⟩ : ∃ n, n = ws.length := ⟨_, rfl⟩
  rw [← hn] at H3 hwl
  have HN : Hid (n = ws.length) := hn
  clear hn
  go_enter Tryz.func35, Tryz.ntmps35
  go_wp2_with fail
  refine H1.out.mono ?_
  rintro e w1 ⟨rfl, hw⟩
  obtain rfl := hw.symm
  go_wp2_with fail
  refine H2.out.mono ?_
  rintro e w1 ⟨rfl, hw⟩
  obtain rfl := hw.symm
  go_wp2_with fail
  refine H3.out.mono ?_
  rintro e w1 ⟨rfl, hw1⟩
  have hcell : ∀ k (hk : k < ws.length), w1.cell? ⟨w.heap.size, 0 + k, none⟩ = some (.string ws[k]) := fun k hk => by rw [hw1]; exact word_cell w ws _ rfl k hk
  have HC : Hid (∀ k (hk : k < ws.length), w1.cell? ⟨w.heap.size, 0 + k, none⟩ = some (.string ws[k])) := hcell
  have hB1 : Below w.heap.size w w1 := by rw [hw1]; exact (Below.refl _ _).alloc (Nat.le_refl _) _
  have hz1 : w1.heap.size = w.heap.size + 1 := by rw [hw1]; simp
  have HZ : Hid (w1.heap.size = w.heap.size + 1) := hz1
  clear hw1 hcell hz1
  go_wp2_with fail
  go_loopw [8, 34] (fun u t wr => ∃ k : Nat, k ≤ n ∧ t = .int .i64 k ∧ wr.ownsRow w1.heap.size 3 1 u (vals (ws.take k)).length ((vals (ws.take k)).map (Value.int .i64)) ∧ Below w1.heap.size w1 wr ∧ (∀ j (hj : j < ws.length), j < k → WordOk ws[j].data.toList)) (fun _ t _ => (n - intOf t).toNat)
  case atStart => exact ⟨0, Nat.zero_le _, rfl, World.ownsRow_nil _ _ _ _, Below.refl _ _, fun j _ g => absurd g (Nat.not_lt_zero _)⟩
  case round =>
    obtain ⟨k, hk, rfl, ho, hB, hgo⟩ := hrel
    have HO : Hid (wr.ownsRow w1.heap.size 3 1 u8 (vals (ws.take k)).length ((vals (ws.take k)).map (Value.int .i64))) := ho
    have hlen : (vals (ws.take k)).length ≤ k := by rw [vals_length]; exact List.length_take_le _ _
    have HGO : Hid (∀ j (hj : j < ws.length), j < k → WordOk ws[j].data.toList) := hgo
    clear hgo
    clear ho
    by_cases hlt : k < n
    · have hkl : k < ws.length := by rw [← HN.out]; exact hlt
      have e1 := cell_keep hB (HC.out k hkl)
      rw [Nat.zero_add] at e1
      obtain ⟨x, hx⟩ : ∃ x, x = ws[k] := ⟨_, rfl⟩
      rw [← hx] at e1
      have HX : Hid (∃ hk : k < ws.length, x = ws[k]) := ⟨hkl, hx⟩
      by_cases hW : WordOk x.data.toList
      · have HW : Hid (WordOk x.data.toList) := hW
        clear hW
        clear hx hkl
        go_wp2_with fail
        refine (rn_ok x wr HW.out.1 HW.out.2).mono ?_
        rintro e w2 ⟨rfl, hw⟩
        obtain rfl := hw.symm
        obtain ⟨z, hz⟩ : ∃ z, z = val x.data.toList := ⟨_, rfl⟩
        rw [← hz]
        have HV : Hid (z = val x.data.toList) := hz
        clear hz
        have ho2 : (wr.alloc (.cells #[.int .i64 z] 3)).ownsRow w1.heap.size 3 1 u8 (vals (ws.take k)).length ((vals (ws.take k)).map (Value.int .i64)) := HO.out.alloc _
        have hsz : w1.heap.size ≤ (wr.alloc (.cells #[.int .i64 z] 3)).heap.size := by have := hB.size; simp; omega
        obtain ⟨v', w3, hr, ho3, hg⟩ := run_append_ints (wr.alloc (.cells #[.int .i64 z] 3)) w1.heap.size u8 _ _ ho2 (.slice (some ⟨wr.heap.size, 0, none⟩) 1 1) [z] (isInts_of_cells rfl (fun j hj => by
          obtain rfl : j = 0 := by simpa using hj
          simp)) (by simp; omega) hsz 22
        have hB3 : Below w1.heap.size w1 w3 := (hB.alloc hB.size _).trans (below_of_grown hg hsz ho2 (Nat.le_refl _))
        have HY : Hid (w3.ownsRow w1.heap.size 3 1 v' (vals (ws.take (k + 1))).length ((vals (ws.take (k + 1))).map (Value.int .i64)) ∧ Below w1.heap.size w1 w3) := by
          refine ⟨?_, hB3⟩
          obtain ⟨hkl, hx⟩ := HX.out
          rw [vals_snoc ws k hkl, ← hx, ← HV.out]
          simpa using ho3
        clear ho2 ho3 hg hB3
        go_wp2_with (at_builtin; refine Lib.wpList_append_run _ rfl _ _ _ _ rfl _ _ rfl rfl _ _ hr ?_)
        go_roundw
        case rel => 
          refine ⟨k + 1, hlt, by go_num, HY.out.1, HY.out.2, fun j hj hjk => ?_⟩
          rcases Nat.lt_succ_iff_lt_or_eq.1 hjk with g | g
          · exact HGO.out j hj g
          · obtain ⟨hkl, hx⟩ := HX.out
            subst g
            rw [← hx]; exact HW.out
        case measure => simp [intOf]; omega
      · clear hx hkl
        by_cases hH : HeadOk x.data.toList
        · have hA : ¬ AllD x.data.toList := fun g => hW ⟨hH, g⟩
          go_wp2_with fail
          refine (rn_bad x wr hH hA).mono ?_
          rintro e w2 ⟨rfl, hw⟩
          obtain rfl := hw.symm
          go_wp2_with fail
          go_ret2
          exact ⟨rfl, hB1.trans (hB.mono hB1.size)⟩
        · go_wp2_with fail
          refine (rn_head x wr hH).mono ?_
          rintro e w2 ⟨rfl, hw⟩
          obtain rfl := hw.symm
          go_wp2_with fail
          go_ret2
          exact ⟨rfl, hB1.trans (hB.mono hB1.size)⟩
    · exact absurd (fun j hj => HGO.out j hj (by rw [← HN.out] at hj; omega)) HG.out

/-- Read, where the text is none. -/
theorem read_text (a : Nat → Addr) (s : ByteArray) (w : World) (h3 : Three w a)
    (hk : Calls Tryz.prog 35 #[.string s] w fun e w' => e = .returned (.tuple #[.slice none 0 0, .bool false]) ∧ Below w.heap.size w w') :
    Calls Tryz.prog 18 #[.string s] w fun e w' => e = .returned (.tuple #[.slice none 0 0, .iface 161 (.pointer (some (a 0)))]) ∧ Below w.heap.size w w' := by
  have HK : Hid (Calls Tryz.prog 35 #[.string s] w fun e w' => e = .returned (.tuple #[.slice none 0 0, .bool false]) ∧ Below w.heap.size w w') := hk
  clear hk
  have H3 : Hid (Three w a) := h3
  clear h3
  go_enter Tryz.func18, Tryz.ntmps18
  go_wp2_with fail
  refine HK.out.mono ?_
  rintro e w1 ⟨rfl, hB⟩
  have c0 := (H3.out.below hB).c0
  go_wp2_with fail
  go_quiet (fail)
  go_wp2
  go_ret2
  exact ⟨rfl, below_drewN hB _⟩
/-- Read, where the text is a set's. -/
theorem read_ok (zs : List Int) (s : ByteArray) (w : World) (hl : zs.length ≤ 1000000) (hz : IsSet zs)
    (hk : Calls Tryz.prog 35 #[.string s] w fun e w' => ∃ v', e = .returned (.tuple #[v', .bool true]) ∧ IsInts w' v' zs ∧ Below w.heap.size w w') :
    Calls Tryz.prog 18 #[.string s] w fun e w' => ∃ v', e = .returned (.tuple #[v', .nilIface]) ∧ IsInts w' v' zs ∧ Below w.heap.size w w' := by
  have HK : Hid (Calls Tryz.prog 35 #[.string s] w fun e w' => ∃ v', e = .returned (.tuple #[v', .bool true]) ∧ IsInts w' v' zs ∧ Below w.heap.size w w') := hk
  clear hk
  go_enter Tryz.func18, Tryz.ntmps18
  go_wp2_with fail
  refine HK.out.mono ?_
  rintro e w1 ⟨v1, rfl, hI, hB⟩
  have HI : Hid (IsInts w1 v1 zs) := hI
  clear hI
  go_wp2_with fail
  refine (check_ok zs v1 w1 hl HI.out hz.1 hz.2).mono ?_
  rintro e w2 ⟨rfl, hB2⟩
  go_wp2
  go_ret2
  exact ⟨v1, rfl, HI.out.below hB2, hB.trans (hB2.mono hB.size)⟩
/-- Read, where the text is a list that is no set. -/
theorem read_no (x : Addr) (zs : List Int) (s : ByteArray) (w : World)
    (hk : Calls Tryz.prog 35 #[.string s] w fun e w' => ∃ v', e = .returned (.tuple #[v', .bool true]) ∧ IsInts w' v' zs ∧ Below w.heap.size w w')
    (hc : ∀ v' w1, IsInts w1 v' zs → Below w.heap.size w w1 → Calls Tryz.prog 11 #[v'] w1 fun e w' => e = .returned (.iface 161 (.pointer (some x))) ∧ Below w1.heap.size w1 w') :
    Calls Tryz.prog 18 #[.string s] w fun e w' => e = .returned (.tuple #[.slice none 0 0, .iface 161 (.pointer (some x))]) ∧ Below w.heap.size w w' := by
  have HK : Hid (Calls Tryz.prog 35 #[.string s] w fun e w' => ∃ v', e = .returned (.tuple #[v', .bool true]) ∧ IsInts w' v' zs ∧ Below w.heap.size w w') := hk
  have HC : Hid (∀ v' w1, IsInts w1 v' zs → Below w.heap.size w w1 → Calls Tryz.prog 11 #[v'] w1 fun e w' => e = .returned (.iface 161 (.pointer (some x))) ∧ Below w1.heap.size w1 w') := hc
  clear hk hc
  go_enter Tryz.func18, Tryz.ntmps18
  go_wp2_with fail
  refine HK.out.mono ?_
  rintro e w1 ⟨v1, rfl, hI, hB⟩
  have HI : Hid (IsInts w1 v1 zs) := hI
  clear hI
  go_wp2_with fail
  refine (HC.out v1 w1 HI.out hB).mono ?_
  rintro e w2 ⟨rfl, hB2⟩
  go_wp2
  go_ret2
  exact ⟨rfl, hB.trans (hB2.mono hB.size)⟩
end Go.Proofs.YtgmjmadacmgnkaaGreatDoor
