/- Lemmas and contracts that the law stands on, joined: DtKeys, DtAll. -/
import Derived.Test.YtjacenhblclkaaaDoorJoin41
import Derived.Test.YtjacenhblclkaaaDoorJoin44
import Derived.Maps.OwnOps
/- What maps.Keys and slices.Sorted answer of a map of ints: its keys, rising, in new memory. -/
namespace Go.Proofs.YtjacenhblclkaaaDoor
open Go.RowKit Go.Maps Go.Sort Go.Shelf
set_option linter.unusedVariables false

/-- slices.Sort's two contracts here, at the fence that asks nothing. -/
theorem Tryd.sortsA (m : Nat) : AnyZI.SortsIn Tryd.prog Tryd.sortedA_ren Fence.wide m :=
  ⟨fun blk off cap ss W hH hblk hsz => callsIn_wide.2 (AnyM.slices_Sort_int Tryd.sortA blk off cap ss W hH hblk hsz),
   fun p cap W => callsIn_wide.2 (AnyM.slices_Sort_int_none Tryd.sortA p cap W)⟩
theorem keys_any (mb : Option Nat) (W : World) : Calls Tryd.prog 80 #[.map mb] W fun e w' => e = .returned (.func (.func 98) #[] #[.pointer (some ⟨W.heap.size, 0, none⟩)]) ∧ w' = W.alloc (.cells #[.map mb] 81) :=
  (callsIn_wide (n := 5)).1 (AnyZI.keys_in Tryd.keysA Fence.wide 5 trivial rfl mb W)
set_option maxHeartbeats 1000000 in
theorem sorted_some {H : Type} (b nn Bm : Nat) (D0 : DataW H) (R : Value → Option (DataW H × List MemPlace)) (W : World) (hown : W.ownsMap Tryd.prog 3 R b nn D0) (hmax : Maps.size D0 ≤ maxLen) (hbytes : Maps.size D0 * 8 ≤ 140737488355328)
    (hBm : Bm < W.heap.size) (hm : W.cell? ⟨Bm, 0, none⟩ = some (.map (some b))) :
    Calls Tryd.prog 79 #[.func (.func 98) #[] #[.pointer (some ⟨Bm, 0, none⟩)]] W fun e w' => ∃ (v : Value) (ss : List Int), e = .returned v ∧ ss.Perm (intKeys D0) ∧
      w'.ownsRow W.heap.size 3 1 v ss.length ((ss.mergeSort (fun x y => decide (x ≤ y))).map encZ) ∧ (v = .slice none 0 0 ↔ ss = []) ∧ Below W.heap.size W w' := by
  refine (callsIn_wide (n := 5)).1 ?_
  have hseq : SeqGives Fence.wide 2 Tryd.prog 98 #[.pointer (some ⟨Bm, 0, none⟩)] encZ (fun ss => ss.Perm (intKeys D0)) (Maps.size D0) W :=
    AnyZI.keys_gives (ρ := Tryd.keysA_ren) { Tryd.keysA with } Fence.wide _ trivial rfl (by omega) Bm b nn D0 _ hBm hm hown
  have cS := AnyZI.sorted_in Tryd.sortedA Fence.wide 5 trivial trivial trivial trivial rfl (by omega) (Tryd.sortsA _) (enters_of Tryd.func46 (by kernel_rfl) rfl) 98 #[.pointer (some ⟨Bm, 0, none⟩)] trivial (enters_of Tryd.func98 (by kernel_rfl) rfl) _ _ hmax hbytes _ hseq
  change CallsIn _ _ Tryd.prog 79 _ _ _ at cS
  exact cS
set_option maxHeartbeats 1000000 in
theorem sorted_none (Bm : Nat) (W : World) (hBm : Bm < W.heap.size) (hm : W.cell? ⟨Bm, 0, none⟩ = some (.map none)) :
    Calls Tryd.prog 79 #[.func (.func 98) #[] #[.pointer (some ⟨Bm, 0, none⟩)]] W fun e w' => e = .returned (.slice none 0 0) ∧ Below W.heap.size W w' := by
  refine (callsIn_wide (n := 5)).1 ?_
  have hseq : SeqGives Fence.wide 2 Tryd.prog 98 #[.pointer (some ⟨Bm, 0, none⟩)] encZ (fun ss : List Int => ss = []) 0 W :=
    AnyZI.keys_gives_nil (ρ := Tryd.keysA_ren) { Tryd.keysA with } Fence.wide _ trivial rfl Bm _ hBm hm
  have cS := AnyZI.sorted_in Tryd.sortedA Fence.wide 5 trivial trivial trivial trivial rfl (by omega) (Tryd.sortsA _) (enters_of Tryd.func46 (by kernel_rfl) rfl) 98 #[.pointer (some ⟨Bm, 0, none⟩)] trivial (enters_of Tryd.func98 (by kernel_rfl) rfl) _ 0 (Nat.zero_le _) (by omega) _ hseq
  change CallsIn _ _ Tryd.prog 79 _ _ _ at cS
  refine cS.mono ?_
  rintro e w' ⟨v, ss, rfl, rfl, hrow, hnil, hb⟩
  obtain rfl : v = .slice none 0 0 := hnil.2 rfl
  exact ⟨rfl, hb⟩
theorem keys_mapD (es : List (Int × Int)) : intKeys (mapD es) = es.map (·.1) := by
  show ((es.map litD).map _) = _
  rw [List.map_map]
  rfl
theorem sort_up {es : List (Int × Int)} (hu : Up es) {ss : List Int} (h : ss.Perm (es.map (·.1))) : ss.mergeSort (fun x y => decide (x ≤ y)) = es.map (·.1) := by
  have h1 := mergeSort_of_perm_i h
  have h2 : ss.mergeSort (fun x y => decide (x ≤ y)) = (es.map (·.1)).mergeSort leI := h1
  rw [h2]
  refine List.mergeSort_of_pairwise ((up_keys hu).imp fun h => by simpa [leI] using h)
/-- slices.Sorted of the keys of a table's map. -/
theorem sorted_tab {es : List (Int × Int)} (b nn Bm : Nat) (W : World) (hown : W.ownsMap Tryd.prog 3 (plainElem Tryd.prog 3) b nn (mapD es)) (hu : Up es) (hn : es.length ≤ 1000)
    (hBm : Bm < W.heap.size) (hm : W.cell? ⟨Bm, 0, none⟩ = some (.map (some b))) :
    Calls Tryd.prog 79 #[.func (.func 98) #[] #[.pointer (some ⟨Bm, 0, none⟩)]] W fun e w' => ∃ (v : Value), e = .returned v ∧
      w'.ownsRow W.heap.size 3 1 v es.length (es.map fun e => .int .i64 e.1) ∧ Below W.heap.size W w' := by
  refine (sorted_some b nn Bm (mapD es) _ W hown (by rw [size_mapD]; unfold maxLen; omega) (by rw [size_mapD]; omega) hBm hm).mono ?_
  rintro e w' ⟨v, ss, rfl, hp, hrow, _, hb⟩
  rw [keys_mapD] at hp
  have hl := hp.length_eq
  rw [sort_up hu hp, hl, List.length_map, List.map_map] at hrow
  exact ⟨v, rfl, hrow, hb⟩
end Go.Proofs.YtjacenhblclkaaaDoor

/- What a table's All answers: the pages, rising, in new memory. -/
namespace Go.Proofs.YtjacenhblclkaaaDoor
open Go.RowKit Go.Maps
set_option linter.unusedVariables false

/-- The slice v reads as the keys of es. -/
def KeysRow (w : World) (v : Value) (es : List (Int × Int)) : Prop :=
  ∃ ao c, v = .slice ao es.length c ∧ (0 < es.length → ∃ g, ao = some ⟨g, 0, none⟩ ∧ g < w.heap.size ∧ ∀ i e, es[i]? = some e → w.cell? ⟨g, i, none⟩ = some (.int .i64 e.1))
theorem keysRow_of {w : World} {B : Nat} {v : Value} {es : List (Int × Int)} (h : w.ownsRow B 3 1 v es.length (es.map fun e => .int .i64 e.1)) : KeysRow w v es := by
  have h' := h
  rcases h.2 with ⟨e, h0⟩ | ⟨g, c, cur, hv, hg, hh, h4, h5, h6, h7⟩
  · exact ⟨none, 0, by rw [e, h0], fun hp => by omega⟩
  · refine ⟨_, c, hv, fun _ => ⟨g, rfl, lt_of_block hh, fun i e hi => ?_⟩⟩
    have hlt := (List.getElem?_eq_some_iff.1 hi).1
    subst hv
    rw [h'.cellAt i (by omega), List.getElem?_map, hi]
    rfl
set_option maxRecDepth 100000 in
set_option maxHeartbeats 4000000 in
theorem all_any {w : World} {T o N : Nat} {mb : Option Nat} {es : List (Int × Int)} (h : TabAt w T o mb N es) (hes : es.length ≤ 500) :
    Calls Tryd.prog 49 #[.pointer (some ⟨T, o, none⟩)] w fun e w' => ∃ ao c, e = .returned (.slice ao es.length c) ∧ OwnD w' w.heap.size ao c es ∧ Below w.heap.size w w' := by
  have c0 := h.cell
  have hlt := h.lt
  cases mb with
  | none =>
    have e1 := h.nil rfl
    subst e1
    clear h hes
    go_enter Tryd.func49, Tryd.ntmps49
    have HB0 := hide (below_box w (.cells #[.map none] 81))
    have hm0 : (w.alloc (.cells #[.map none] 81)).cell? ⟨w.heap.size, 0, none⟩ = some (.map none) := (cell_row (heap_alloc_new w _) 0).trans rfl
    have hsz : w.heap.size < (w.alloc (.cells #[.map none] 81)).heap.size := by simp
    have hsort := sorted_none _ _ hsz hm0
    have HB1 : Hid (Below w.heap.size w (w.alloc (.cells #[.map none] 81))) := HB0
    go_wp2_with (first
      | (go_at_call 80; refine (keys_any _ _).mono ?_; rintro e x1 ⟨rfl, rfl⟩)
      | (go_at_call 79; refine hsort.mono ?_; rintro e x2 ⟨rfl, hb⟩; have HB2 := hide (over HB1.out hb HB1.out.size); clear hb))
    refine wp_loop_rounds 1 ?_
    rw [rounds_succ]
    go_wp2_with fail
    go_ret
    exact ⟨none, 0, rfl, ownD_nil _ _, HB2.out⟩
  | some b =>
    have hown := h.own b rfl
    have HO := hide hown
    have HBL := hide hown.lt
    have HW : Hid (∀ (k : Nat) (e : Int × Int), es[k]? = some e → (Lit.int .i64 e.1).wf = true) := fun k e he => intKeys_wf hown Tryd.underlying3 e.1 (by rw [keys_mapD]; exact List.mem_map.2 ⟨e, List.mem_of_getElem? he, rfl⟩)
    have HU := hide h.up
    have HN := hide hes
    clear h hes
    have HB1 := hide (below_box w (.cells #[.map (some b)] 81))
    have hm0 : (w.alloc (.cells #[.map (some b)] 81)).cell? ⟨w.heap.size, 0, none⟩ = some (.map (some b)) := (cell_row (heap_alloc_new w _) 0).trans rfl
    have hsz : w.heap.size < (w.alloc (.cells #[.map (some b)] 81)).heap.size := by simp
    have hsort := sorted_tab b N _ _ (hown.alloc _) HU.out (by have := HN.out; omega) hsz hm0
    clear hown hm0 hsz
    obtain ⟨n, hn⟩ : ∃ n, n = es.length := ⟨_, rfl⟩
    have HNN := hide hn
    have hn5 : n ≤ 500 := by rw [hn]; exact HN.out
    rw [← hn]
    clear hn
    go_enter Tryd.func49, Tryd.ntmps49
    go_wp2_with (first
      | (go_at_call 80; refine (keys_any _ _).mono ?_; rintro e x1 ⟨rfl, rfl⟩)
      | (go_at_call 79; refine hsort.mono ?_; rintro e x2 ⟨v, rfl, hrow, hb⟩; have HK := hide (keysRow_of hrow); have HB2 := hide (over HB1.out hb HB1.out.size); clear hb hrow; obtain ⟨ko, kc, rfl, hk⟩ := HK.out; rw [← HNN.out]))
    have HO2 := hide (ownsMap_of HO.out (HB2.out.block b HBL.out))
    clear HO HB1 hsort
    go_loopw [3, 13] (fun l i wr => ∃ (k : Nat) (ao : Option Addr) (c : Nat), k ≤ n ∧ i = .int .i64 k ∧ l = .slice ao k c ∧ OwnD wr x2.heap.size ao c (es.take k) ∧ Below x2.heap.size x2 wr) (fun _ i _ => n - posOf i)
    case atStart => exact ⟨0, none, 0, by omega, rfl, rfl, ownD_nil _ _, Below.refl _ _⟩
    case round =>
      obtain ⟨k, ao, c, hk', rfl, rfl, hown, hb⟩ := hrel
      have HOW := hide hown
      have HB := hide hb
      clear hown hb
      by_cases hlt' : k < n
      · have hki : (k : Int) < (n : Int) := by omega
        obtain ⟨e, he⟩ : ∃ e, es[k]? = some e := ⟨es[k]'(by rw [← HNN.out]; exact hlt'), List.getElem?_eq_getElem _⟩
        obtain ⟨g, rfl, hg, hcs⟩ := hk (by rw [← HNN.out]; omega)
        have k1 := (HB.out.cell (p := ⟨g, k, none⟩) hg).trans (hcs k e he)
        have c0' : wr.cell? ⟨T, o, none⟩ = some (.map (some b)) := ((over HB2.out HB.out HB2.out.size).cell (p := ⟨T, o, none⟩) hlt).trans c0
        have hownr := ownsMap_of HO2.out (HB.out.block b (Nat.lt_of_lt_of_le HBL.out HB2.out.size))
        have hkey := Maps.keyOf_int_mk Tryd.underlying3 (HW.out k e he)
        have HV : Hid (∀ c : Int, (mapD es).atKey (.int .i64 e.1) (.lit (.int .i64 0)) = .lit (.int .i64 c) → c = e.2) := fun c hc => by rw [val_of_key hc, valE_at HU.out he]; rfl
        have hbx := below_box wr (dirBlock e)
        obtain ⟨ao2, c2', w2, hrun, hown2, hgr, hb2⟩ := run_appendD (yc := 1) (HOW.out.step hbx) (show (es.take k).length = k by rw [List.length_take, ← HNN.out]; omega) (show [e].length = 1 from rfl) (by have := HN.out; rw [← HNN.out] at this; omega) (Nat.le_trans HB.out.size hbx.size) (dir_new wr e) 53
        rw [← take_succ_at he] at hown2
        have HRUN := hide hrun
        have HOW2 := hide hown2
        have HB3 := hide ((over HB.out hbx HB.out.size).trans hb2)
        clear hcs hbx hrun hown2 hgr hb2 he hg
        obtain ⟨x, y⟩ := e
        simp only at k1 hkey HV
        go_wp2_with (first
          | (at_lookup; refine wpList_lookup_own_int _ rfl _ _ 81 rfl 3 3 .i64 Tryd.keyed3 Tryd.underlying81 Tryd.underlying3 (Tryd.zero3 _) b N _ rfl hownr _ _ rfl hkey ?_; intro d hat hwc; replace hat := HV.out d hat; subst hat)
          | (with_reducible refine buildD (x, d) ?_ ?_; rfl)
          | (at_builtin; refine wpList_append_runD rfl (.tmp 17) (.tmp 26) 53 rfl _ _ rfl rfl HRUN.out ?_))
        go_roundw
        case rel => exact ⟨k + 1, ao2, c2', by omega, by go_num, rfl, HOW2.out, HB3.out⟩
        case measure => simp [posOf]; omega
      · have hki : decide ((k : Int) < (n : Int)) = false := by simp; omega
        have hkn : k = n := by omega
        subst hkn
        have hO := HOW.out
        rw [List.take_of_length_le (by rw [← HNN.out]; exact Nat.le_refl _)] at hO
        have HO3 := hide (hO.mono HB2.out.size)
        clear hO
        go_wp2_with fail
        go_ret
        exact ⟨ao, c, rfl, HO3.out, over HB2.out HB.out HB2.out.size⟩
end Go.Proofs.YtjacenhblclkaaaDoor
