
/- What the statement DiskKeeps asks comes out true, at all arguments, where package api's variables hold errors of their own; nothing that was there is written. -/
import Derived.Test.YtedmgdiimfenaaaDoorKeepMath
import Derived.RegionTactic
import Derived.ChangeAlike
namespace Go.Proofs.YtedmgdiimfenaaaDoor.diskKeeps
open Go.RowKit
set_option linter.unusedVariables false

/-- All that the walk keeps of the disk and of the statement's own array. -/
structure Held (w wr : World) (a : Nat → Addr) (d MB : Nat) (K : Nat → Prop) (vss : List (List (List Int))) (ms : List (List Int)) (f : Nat → Value) : Prop where
  disk : Disk wr K a d vss false (-1)
  may : May wr K MB ms f
  kmb : K MB
  kw : ∀ b, b < w.heap.size → K b
  bel : Below w.heap.size w wr
theorem Held.below {w wr w' : World} {a : Nat → Addr} {d MB : Nat} {K : Nat → Prop} {vss : List (List (List Int))} {ms : List (List Int)} {f : Nat → Value} (h : Held w wr a d MB K vss ms f) (hb : Below wr.heap.size wr w') : Held w w' a d MB K vss ms f :=
  ⟨h.disk.below hb, h.may.below hb, h.kmb, h.kw, over h.bel hb h.bel.size⟩
theorem Held.widen {w wr w' : World} {a : Nat → Addr} {d MB : Nat} {K : Nat → Prop} {vss : List (List (List Int))} {ms : List (List Int)} {f : Nat → Value} (h : Held w wr a d MB K vss ms f) (hb : Below wr.heap.size wr w') : Held w w' a d MB (wider K wr.heap.size w'.heap.size) vss ms f :=
  ⟨h.disk.widen hb, (h.may.below hb).mono fun k hk => .inl hk, .inl h.kmb, fun b hlt => .inl (h.kw b hlt), over h.bel hb h.bel.size⟩
theorem Held.turn {w wr w' : World} {a : Nat → Addr} {d MB : Nat} {K : Nat → Prop} {vss vss' : List (List (List Int))} {ms : List (List Int)} {f : Nat → Value} (h : Held w wr a d MB K vss ms f) (hd : Disk w' K a d vss' false (-1)) (hk : Kept K wr w') : Held w w' a d MB K vss' ms f :=
  ⟨hd, h.may.kept hk h.kmb, h.kmb, h.kw, h.bel.trans (hk.below h.kw)⟩
theorem Held.put {w wr : World} {a : Nat → Addr} {d MB : Nat} {K : Nat → Prop} {vss : List (List (List Int))} {ms ms' : List (List Int)} {f : Nat → Value} (h : Held w wr a d MB K vss ms f) (he : Errs w (fun b => b < w.heap.size) a) (hM : w.heap.size ≤ MB) {k : Nat} (hk : k < 5) {v : Value} {xs : List Int} (hv : MayOk wr K v xs) (hms : ∀ (j : Nat) (ys : List Int), ms'[j]? = some ys → (j = k ∧ ys = xs) ∨ (j ≠ k ∧ ms[j]? = some ys)) : Held w (wr.setCell ⟨MB, k, none⟩ v) a d MB K vss ms' (fun j => if j = k then v else f j) := by
  have hb := h.bel.setCell (p := ⟨MB, k, none⟩) hM v
  exact ⟨h.disk.setOther h.kmb v (errsK he hb h.kw), h.may.put hk hv hms, h.kmb, h.kw, hb⟩
theorem Held.drewN {w wr : World} {a : Nat → Addr} {d MB : Nat} {K : Nat → Prop} {vss : List (List (List Int))} {ms : List (List Int)} {f : Nat → Value} (h : Held w wr a d MB K vss ms f) (n : Nat) : Held w (wr.drewN n) a d MB K vss ms f :=
  ⟨h.disk.drewN n, h.may.drewN n, h.kmb, h.kw, below_drewN h.bel n⟩
theorem new_byte (wr : World) (K : Nat → Prop) (hK : K wr.heap.size) : MayOk (wr.alloc (.cells #[.int .u8 0] 5)) K (.slice (some ⟨wr.heap.size, 0, none⟩) 1 1) [0] :=
  ⟨by simp, wr.heap.size, 0, 1, rfl, by simp, hK, by simp, fun x hx => by simp at hx; omega, fun _ => ⟨wr.heap.size, 0, rfl, by simp, fun i hi => by
    have : i = 0 := by simp at hi; omega
    subst this
    rw [cell_row (heap_alloc_new wr _)]
    rfl⟩⟩
theorem rep_push (i j : Nat) (ys : List Int) (h : (List.replicate (i + 1) [(0 : Int)])[j]? = some ys) : (j = i ∧ ys = [0]) ∨ (j ≠ i ∧ (List.replicate i [(0 : Int)])[j]? = some ys) := by
  rw [List.getElem?_replicate] at h
  by_cases e : j < i + 1
  · rw [if_pos e] at h
    simp only [Option.some.injEq] at h
    by_cases e2 : j = i
    · exact .inl ⟨e2, h.symm⟩
    · exact .inr ⟨e2, by rw [List.getElem?_replicate, if_pos (by omega), h]⟩
  · rw [if_neg e] at h
    simp at h

theorem set_put {l : List (List Int)} {k : Nat} {x : List Int} (hk : k < l.length) : ∀ (j : Nat) (ys : List Int), (l.set k x)[j]? = some ys → (j = k ∧ ys = x) ∨ (j ≠ k ∧ l[j]? = some ys) := by
  intro j ys h
  rw [List.getElem?_set] at h
  by_cases e : k = j
  · rw [if_pos e, if_pos hk] at h
    simp only [Option.some.injEq] at h
    exact .inl ⟨e.symm, h.symm⟩
  · rw [if_neg e] at h
    exact .inr ⟨fun e2 => e e2.symm, h⟩
theorem row_last {w : World} {g off q : Nat} {xs : List Int} (h : Row w (some ⟨g, off, none⟩) xs) (hq : xs.length = q + 1) : Row w (some ⟨g, off + q, none⟩) (lastL xs) := by
  obtain ⟨h0, h1, h2⟩ := h
  have hl := length_lastL xs (by omega)
  refine ⟨by omega, fun x hx => h1 x (List.mem_of_mem_drop hx), fun _ => ?_⟩
  obtain ⟨b, o, e, hlt, hc⟩ := h2 (by omega)
  cases e
  refine ⟨g, off + q, rfl, hlt, fun i hi => ?_⟩
  have hi0 : i = 0 := by omega
  subst hi0
  rw [Nat.add_zero, hc q (by omega), lastL, hq, Nat.add_sub_cancel, List.getD_eq_getElem?_getD, List.getD_eq_getElem?_getD, List.getElem?_drop, Nat.add_zero]
theorem size_set (w : World) (p : Addr) (v : Value) : (w.setCell p v).heap.size = w.heap.size := by simp [World.setCell]
theorem bytes_len (ao : Option Addr) (n cap : Nat) (xs : List Int) (w : World) (h : Row w ao xs) (hn : xs.length = n) :
    Calls Tryd.prog 12 #[.slice ao n cap] w fun e w' => e = .returned (.slice (some ⟨w.heap.size, 0, none⟩) n n) ∧ Own w' w.heap.size (some ⟨w.heap.size, 0, none⟩) n xs ∧ Below w.heap.size w w' := by subst hn; exact bytes_any ao cap xs w h
theorem own_mayOk {w : World} {B n c : Nat} {ao : Option Addr} {ys : List Int} {K : Nat → Prop} (h : w.ownsRow B 5 1 (.slice ao n c) n (cellsOf ys)) (hn : ys.length = n) (h1 : 1 ≤ n) (hb : Bytes ys) (hl : n ≤ 4294967296) (hK : ∀ g, B ≤ g → g < w.heap.size → K g) : MayOk w K (.slice ao n c) ys := by
  subst hn
  have ho : Own w B ao c ys := ⟨h, hb, hl⟩
  obtain ⟨g, cap, hv, hg, hlt, _⟩ := owns_first h (by omega)
  simp only [Value.slice.injEq, true_and] at hv
  obtain ⟨rfl, rfl⟩ := hv
  have hcap : ys.length ≤ c := by
    rcases h.2 with ⟨e, _⟩ | ⟨_, _, _, e, _, _, h5, _⟩
    · simp at e
    · simp only [Value.slice.injEq, true_and] at e
      omega
  exact ⟨h1, g, 0, c, rfl, hcap, hK g hg hlt, ho.row⟩

set_option maxRecDepth 100000 in
set_option maxHeartbeats 3000000 in
theorem walk (a0 : Option Addr) (len0 cap0 : Nat) (z0 : List Int) (a1 : Option Addr) (len1 cap1 : Nat) (z1 : List Int) (a2 : Int) (w : World) (w0 : IsRow .i64 w a0 len0 cap0 z0) (w1 : IsRow .i64 w a1 len1 cap1 z1) (w2 : (Lit.int .i64 a2).wf = true) {a : Nat → Addr} (he : SomeErrs w 3 a) :
    Calls Tryd.prog 3 #[.slice a0 len0 cap0, .slice a1 len1 cap1, .int .i64 a2] w fun e w' => e = .returned (.bool true) ∧ Below w.heap.size w w' := by
  have HE := hide (he.errs (Nat.le_refl _))
  obtain ⟨i0, hi, hz0, hz1, hz2⟩ := info_parts Tryd.info5
  have HR0 := hide w0
  have HR1 := hide w1
  clear w0 w1 w2 he
  by_cases hl40 : 40 < len0
  · have hli : (40 : Int) < (len0 : Int) := by omega
    go_enter Tryd.func3, Tryd.ntmps3
    go_wp2_with fail
    refine (dfirst_any _ HE.out).mono ?_
    rintro e x1 ⟨rfl, hb1⟩
    have HB1 := hide hb1
    clear hb1
    go_wp2_with fail
    go_ret
    exact ⟨rfl, HB1.out⟩
  · have hli : decide ((40 : Int) < (len0 : Int)) = false := by simp; omega
    by_cases hl20 : 20 < len1
    · have hli1 : (20 : Int) < (len1 : Int) := by omega
      go_enter Tryd.func3, Tryd.ntmps3
      go_wp2_with fail
      refine (dfirst_any _ HE.out).mono ?_
      rintro e x1 ⟨rfl, hb1⟩
      have HB1 := hide hb1
      clear hb1
      go_wp2_with fail
      go_ret
      exact ⟨rfl, HB1.out⟩
    · have hli1 : decide ((20 : Int) < (len1 : Int)) = false := by simp; omega
      obtain ⟨xs, hxl, hxr⟩ := irow_of_isrow HR0.out (by omega)
      obtain ⟨zs, hzl, hzr⟩ := irow_of_isrow HR1.out (by omega)
      have HXL := hide hxl
      have HXR := hide hxr
      have HZL := hide hzl
      have HZR := hide hzr
      clear hxl hxr hzl hzr HR0 HR1
      have hn := numberB_bd a2 ((len0 : Int) + 1) (by omega)
      obtain ⟨t, ht'⟩ : ∃ t : Nat, numberB a2 ((len0 : Int) + 1) = t := ⟨(numberB a2 ((len0 : Int) + 1)).toNat, by omega⟩
      have HT := hide ht'
      clear hn ht'
      go_enter Tryd.func3, Tryd.ntmps3
      go_wp2_with fail
      refine (dfirst_any _ HE.out).mono ?_
      rintro e x1 ⟨rfl, hb1⟩
      have HB1 := hide hb1
      clear hb1
      go_wp2_with fail
      refine (new_any _ 5 (.inr (.inl ⟨by omega, by omega, by omega⟩)) (errs_below HE.out HB1.out)).mono ?_
      rintro e x3 ⟨d, rfl, hd, hdisk, hb3⟩
      have hbA : Below x3.heap.size x3 (x3.alloc (mayBlock fun _ => .slice none 0 0)) := (Below.refl _ _).alloc (Nat.le_refl _) _
      have HNB : Hid (w.heap.size ≤ x3.heap.size) := Nat.le_trans HB1.out.size hb3.size
      have hmay : May (x3.alloc (mayBlock fun _ => .slice none 0 0)) (fun b => x3.heap.size ≤ b) x3.heap.size [] (fun _ => .slice none 0 0) := ⟨heap_alloc_new _ _, fun j _ => ⟨_, _, _, rfl⟩, fun k xs hx => by simp at hx⟩
      have HMAY := hide hmay
      have HDISK := hide hdisk
      have HBA := hide hbA
      have HB3 := hide (over HB1.out hb3 HB1.out.size)
      clear hdisk hb3 hbA hd hmay
      go_wp2_with fail
      refine (number_any _ _ _ (by omega) (by omega)).mono ?_
      rintro e x4 ⟨rfl, rfl⟩
      rw [HT.out]
      go_wp2_with fail
      go_loopw [10] (fun i wr => ∃ (k : Nat) (f : Nat → Value), k ≤ 5 ∧ i = .int .i64 k ∧ May wr (fun b => x4.heap.size ≤ b) x4.heap.size (List.replicate k [0]) f ∧ Below x4.heap.size x4 wr) (fun i _ => 5 - (intOf i).toNat)
      case atStart => exact ⟨0, _, by omega, rfl, HMAY.out, HBA.out⟩
      case round =>
        clear HMAY HBA
        obtain ⟨k, f, hk, rfl, hm, hb⟩ := hrel
        have HM := hide hm
        have HB := hide hb
        have hsz := hb.size
        have hmb := lt_of_block hm.blk
        by_cases hlt : k < 5
        · have hki : (k : Int) < 5 := by omega
          have hck := mayBlock_cell hm.blk k hlt
          have hfk := frozen_row hm.blk k
          obtain ⟨fa, fn, fc, hfe⟩ := hm.sl k hlt
          rw [hfe] at hck
          clear hm hb hfe
          go_wp2_with fail
          rw [swap_alloc _ _ _ _ hmb]
          refine ⟨⟨k + 1, _, hlt, by go_num, (HM.out.below ((Below.refl _ _).alloc (Nat.le_refl _) _)).put hlt (new_byte wr _ hsz) (rep_push k), ?_⟩, ?_⟩
          · exact (HB.out.alloc hsz _).setCell (Nat.le_refl _) _
          · simp only [intOf]
            omega
        · have hk5 : k = 5 := by omega
          have HK5 := hide hk5
          have hki : decide ((k : Int) < 5) = false := by simp; omega
          have HH : Hid (Held w wr a d x4.heap.size (wider (fun b => b < x1.heap.size) x4.heap.size wr.heap.size) (vssOf (List.replicate 5 [0])) (List.replicate 5 [0]) f) := by
            have e : vssOf (List.replicate 5 [0]) = List.replicate 5 [fillOf 0] := rfl
            rw [hk5] at hm
            refine ⟨by rw [e]; exact HDISK.out.widen HB.out, ?_, .inr ⟨Nat.le_refl _, hmb⟩, fun b hlt => .inl (Nat.lt_of_lt_of_le hlt HB1.out.size), over HB3.out HB.out HB3.out.size⟩
            refine ⟨hm.blk, hm.sl, fun j ys hj => ?_⟩
            obtain ⟨h1, g, off, cap, h2, h3, h4, h5⟩ := hm.row j ys hj
            obtain ⟨b, o, e2, hlt2, _⟩ := h5.2.2 (by omega)
            cases e2
            exact ⟨h1, g, off, cap, h2, h3, .inr ⟨h4, hlt2⟩, h5⟩
          clear hm hb hk hlt hk5 HM HB hsz hmb
          go_wp2_with fail
          obtain ⟨MB, hMB⟩ : ∃ MB, MB = x4.heap.size := ⟨_, rfl⟩
          rw [← hMB] at HH HNB ⊢
          clear hMB
          go_loopw [11] (fun i wr => ∃ (k : Nat) (K : Nat → Prop) (ms : List (List Int)) (f : Nat → Value), k ≤ len0 ∧ i = .int .i64 k ∧ ms.length = 5 ∧ (∀ m ∈ ms, 1 ≤ m.length ∧ m.length ≤ k + 1) ∧ Held w wr a d MB K (vssOf ms) ms f) (fun i _ => len0 - (intOf i).toNat)
          case atStart => exact ⟨0, _, _, f, by omega, rfl, List.length_replicate .., fun m hm => by rw [(List.mem_replicate.1 hm).2]; simp, HH.out⟩
          case round =>
            clear HH HK5 hki
            obtain ⟨k, K, ms, f, hk, rfl, hlen, hall, hh⟩ := hrel
            have HH := hide hh
            have HLEN := hide hlen
            have HALL := hide hall
            clear hh hlen hall
            by_cases hlt : k < len0
            · have hki : (k : Int) < (len0 : Int) := by omega
              by_cases hs : k = t
              · have hsb : ((k : Int) == (t : Int)) = true := by simp [hs]
                have HS := hide hs
                clear hs
                go_wp2_with fail
                refine (sync_ok d HH.out.disk (by omega)).mono ?_
                rintro e y1 ⟨rfl, hd1, hk1⟩
                rw [burnt_none, vssOf_synced ms (fun m hm => (HALL.out m hm).1)] at hd1
                have HH1 := hide (HH.out.turn hd1 hk1)
                clear hd1 hk1 HH
                go_wp2_with fail
                go_loopw [12] (fun i wr => ∃ (j : Nat) (f : Nat → Value), j ≤ 5 ∧ i = .int .i64 j ∧ Held w wr a d MB K (vssOf (ms.map lastL)) (upTo lastL j ms) f) (fun i _ => 5 - (intOf i).toNat)
                case atStart => exact ⟨0, f, by omega, rfl, by rw [upTo_zero]; exact HH1.out⟩
                case round =>
                  clear HH1
                  obtain ⟨j, f, hj, rfl, hh⟩ := hrel
                  have HH := hide hh
                  by_cases hj5 : j < 5
                  · have hji : (j : Int) < 5 := by omega
                    obtain ⟨m, hm⟩ : ∃ m, ms[j]? = some m := ⟨_, List.getElem?_eq_getElem (by rw [HLEN.out]; exact hj5)⟩
                    obtain ⟨hm1, g, off, cap, hv, hcap, hKg, hrow⟩ := hh.may.row j m (by rw [upTo_at]; exact hm)
                    have hck := mayBlock_cell hh.may.blk j hj5
                    have hfk := frozen_row hh.may.blk j
                    have hmax := (HALL.out m (List.mem_of_getElem? hm)).2
                    rw [hv] at hck
                    have HM := hide hm
                    have HROW := hide hrow
                    have HKG := hide hKg
                    obtain ⟨q, hq⟩ : ∃ q, m.length = q + 1 := ⟨m.length - 1, by omega⟩
                    rw [hq] at hck hcap hm1 hmax
                    have HQ := hide hq
                    have hce : ¬ cap = q := by omega
                    have hcapi : (q : Int) + 1 ≤ (cap : Int) := by omega
                    clear hh hv hm hrow hKg hq
                    go_wp2_with fail
                    go_region
                    go_wp2_with fail
                    have hput := HH.out.put HE.out HNB.out hj5 (v := .slice (some ⟨g, off + q, none⟩) 1 (cap - q)) (xs := lastL m) (ms' := upTo lastL (j + 1) ms) ⟨by rw [length_lastL _ (by rw [HQ.out]; omega)]; exact Nat.le_refl _, g, off + q, cap - q, by rw [length_lastL _ (by rw [HQ.out]; omega)], by rw [length_lastL _ (by rw [HQ.out]; omega)]; omega, HKG.out, row_last HROW.out HQ.out⟩ (by rw [← upTo_succ lastL j ms m HM.out]; exact set_put (by rw [length_upTo, HLEN.out]; exact hj5))
                    refine ⟨?_, ?_⟩
                    · exact ⟨j + 1, _, hj5, by go_num, hput.drewN 1⟩
                    · simp only [intOf]
                      omega
                  · have hj' : j = 5 := by omega
                    have HHZ : Hid (Held w wr a d MB K (vssOf (ms.map lastL)) (ms.map lastL) f) := by
                      show Held _ _ _ _ _ _ _ _ _
                      have e : upTo lastL j ms = ms.map lastL := by rw [hj', ← HLEN.out, upTo_all]
                      rw [e] at hh
                      exact hh
                    have hji : decide ((j : Int) < 5) = false := by simp; omega
                    obtain ⟨MS, hMS⟩ : ∃ MS, MS = ms.map lastL := ⟨_, rfl⟩
                    have HLZ : Hid (MS.length = 5) := by show MS.length = 5; rw [hMS, List.length_map, HLEN.out]
                    have HAZ : Hid (∀ m ∈ MS, 1 ≤ m.length ∧ m.length ≤ k + 1) := by
                      intro m hm
                      rw [hMS] at hm
                      obtain ⟨m', hm', rfl⟩ := List.mem_map.1 hm
                      rw [length_lastL _ (HALL.out m' hm').1]
                      omega
                    rw [← hMS] at HHZ
                    clear hh hj hj5 hj' hMS HH
                    obtain ⟨b, off, rfl, hbw, hcw⟩ := HXR.out.2.2 (by rw [HXL.out]; omega)
                    have hcw := hcw k (by rw [HXL.out]; exact hlt)
                    have hmb := numberB_bd (xs.getD k 0) 5 (by omega)
                    obtain ⟨c, hc⟩ : ∃ c : Nat, numberB (xs.getD k 0) 5 = c := ⟨(numberB (xs.getD k 0) 5).toNat, by omega⟩
                    have hc5 : c < 5 := by omega
                    obtain ⟨y, hy⟩ : ∃ y, y = xs.getD k 0 := ⟨_, rfl⟩
                    rw [← hy] at hcw hc
                    have HC := hide hc
                    have hcz := (HHZ.out.bel.cell (p := ⟨b, off + k, none⟩) hbw).trans hcw
                    clear hy hmb hc hcw
                    go_wp2_with fail
                    refine (number_any _ _ _ (by omega) (by omega)).mono ?_
                    rintro e z1 ⟨rfl, rfl⟩
                    rw [HC.out]
                    obtain ⟨m, hm⟩ : ∃ m, MS[c]? = some m := ⟨_, List.getElem?_eq_getElem (by rw [HLZ.out]; exact hc5)⟩
                    obtain ⟨hm1, g, moff, cap, hv, hcap, hKg, hrow⟩ := HHZ.out.may.row c m hm
                    have hck := mayBlock_cell HHZ.out.may.blk c hc5
                    have hmax := (HAZ.out m (List.mem_of_getElem? hm)).2
                    have hmbz := lt_of_block HHZ.out.may.blk
                    rw [hv] at hck
                    have HMM := hide hm
                    have HROW := hide hrow
                    have hfz := frozen_row HHZ.out.may.blk c
                    obtain ⟨q, hq⟩ : ∃ q, m.length = q := ⟨_, rfl⟩
                    rw [hq] at hck hm1 hmax
                    have HQ := hide hq
                    have hci : (c : Int) < 5 := by omega
                    have HCK := hide hck
                    have HFZ := hide hfz
                    have HMBZ := hide hmbz
                    clear hm hv hcap hKg hrow hq hcz hfz hmbz
                    go_wp2_with (first | (go_at_call 12; refine (bytes_len _ q cap m _ HROW.out HQ.out).mono ?_; rintro e z2 ⟨rfl, ho2, hb2⟩; have ho2' := ho2.1; rw [HQ.out] at ho2'; have HO2 := hide ho2'; have HBB := hide ho2.2.1; have HB2 := hide hb2; clear ho2 hb2 ho2') | (at_builtin; refine wpList_append_own _ rfl (.tmp 82) (.tmp 86) 27 rfl z1.heap.size 5 i0 (.int .u8 0) 1 1 Tryd.underlying27 hi hz0 hz1 hz2 rfl (by decide) (.slice (some ⟨z1.heap.size, 0, none⟩) q q) q (cellsOf m) rfl (HO2.out.alloc _) ⟨z2.heap.size, 0, none⟩ 1 1 [.int .u8 ((k : Int) + 1)] rfl rfl (cell_one_new _ _ _) (by simp [Value.oneCell']) (by unfold maxLen; omega) (by omega) (by have := HB2.out.size; simp; omega) ?_; intro v' w3 hown3 hgr3 _; obtain ⟨ao3, c3, rfl⟩ := own_shape hown3; have hb3 : Below z1.heap.size z1 w3 := (HB2.out.alloc HB2.out.size _).grown hgr3 (by have := HB2.out.size; simp; omega) (fun j e => (HO2.out.lt j e).1); have hc3 : w3.cell? ⟨MB, c, none⟩ = some (.slice (some ⟨g, moff, none⟩) q cap) := (hb3.cell HMBZ.out).trans HCK.out; have hf3 : w3.frozen? ⟨MB, c, none⟩ = false := (hb3.frozen HMBZ.out).trans HFZ.out; have HO3 := hide hown3; have HB3 := hide hb3; clear hown3 hgr3 hb3))
                    have hbd : 0 ≤ (k : Int) + 1 ∧ (k : Int) + 1 ≤ 255 := by omega
                    obtain ⟨bb, hbb⟩ : ∃ bb, bb = (k : Int) + 1 := ⟨_, rfl⟩
                    have hmo : MayOk w3 (wider K z1.heap.size w3.heap.size) (.slice ao3 (q + 1) c3) (m ++ [bb]) := by
                      refine own_mayOk (B := z1.heap.size) ?_ (by simp [HQ.out]) (by omega) ?_ (by omega) (fun g h1 h2 => .inr ⟨h1, h2⟩)
                      · rw [cellsOf_append, hbb]; exact HO3.out
                      · intro x hx
                        rcases List.mem_append.1 hx with h9 | h9
                        · exact HBB.out x h9
                        · rw [List.mem_singleton.1 h9, hbb]; exact hbd
                    have hput := (HHZ.out.widen HB3.out).put HE.out HNB.out hc5 hmo (set_put (by rw [HLZ.out]; exact hc5))
                    have HP := hide hput
                    have HBB2 := hide hbb
                    clear hput hmo hc3 hf3 hbd hbb
                    refine (filled_any _ _).mono ?_
                    rintro e z4 ⟨rfl, ho4, hb4⟩
                    rw [show ((k : Int) + 1) % 256 = (k : Int) + 1 by omega, ← HBB2.out, size_set] at ho4
                    have HO4 := hide ho4
                    have HP4 := hide (HP.out.below hb4)
                    clear ho4 hb4 HP
                    go_wp2_with fail
                    refine (write_ok d c _ _ _ HP4.out.disk (by rw [length_vssOf, HLZ.out]; exact hc5) HO4.out.row (length_fillOf _) (by rw [show (vssOf MS).getD c [] = m.map fillOf from vssOf_at HMM.out, List.length_map, HQ.out]; omega) (by omega)).mono ?_
                    rintro e z5 ⟨rfl, hd5, hk5⟩
                    rw [burnt_none, vssOf_write HMM.out] at hd5
                    have HP5 := hide (HP4.out.turn hd5 hk5)
                    clear hd5 hk5 HP4
                    go_wp2_with fail
                    refine ⟨?_, ?_⟩
                    · refine ⟨k + 1, _, _, _, hlt, by go_num, by rw [List.length_set]; exact HLZ.out, fun x hx => ?_, HP5.out⟩
                      rcases List.mem_or_eq_of_mem_set hx with h9 | h9
                      · have := HAZ.out x h9; omega
                      · rw [h9, List.length_append, HQ.out]
                        simp only [List.length_cons, List.length_nil]
                        omega
                    · simp only [intOf]
                      omega
              · have hsb : ((k : Int) == (t : Int)) = false := by simp; omega
                obtain ⟨MS, hMS⟩ : ∃ MS, MS = ms := ⟨_, rfl⟩
                have HHZ := HH
                have HLZ := HLEN
                have HAZ := HALL
                rw [← hMS] at HHZ HLZ HAZ
                clear hMS HH HLEN HALL
                obtain ⟨b, off, rfl, hbw, hcw⟩ := HXR.out.2.2 (by rw [HXL.out]; omega)
                have hcw := hcw k (by rw [HXL.out]; exact hlt)
                have hmb := numberB_bd (xs.getD k 0) 5 (by omega)
                obtain ⟨c, hc⟩ : ∃ c : Nat, numberB (xs.getD k 0) 5 = c := ⟨(numberB (xs.getD k 0) 5).toNat, by omega⟩
                have hc5 : c < 5 := by omega
                obtain ⟨y, hy⟩ : ∃ y, y = xs.getD k 0 := ⟨_, rfl⟩
                rw [← hy] at hcw hc
                have HC := hide hc
                have hcz := (HHZ.out.bel.cell (p := ⟨b, off + k, none⟩) hbw).trans hcw
                clear hy hmb hc hcw
                go_wp2_with fail
                refine (number_any _ _ _ (by omega) (by omega)).mono ?_
                rintro e z1 ⟨rfl, rfl⟩
                rw [HC.out]
                obtain ⟨m, hm⟩ : ∃ m, MS[c]? = some m := ⟨_, List.getElem?_eq_getElem (by rw [HLZ.out]; exact hc5)⟩
                obtain ⟨hm1, g, moff, cap, hv, hcap, hKg, hrow⟩ := HHZ.out.may.row c m hm
                have hck := mayBlock_cell HHZ.out.may.blk c hc5
                have hmax := (HAZ.out m (List.mem_of_getElem? hm)).2
                have hmbz := lt_of_block HHZ.out.may.blk
                rw [hv] at hck
                have HMM := hide hm
                have HROW := hide hrow
                have hfz := frozen_row HHZ.out.may.blk c
                obtain ⟨q, hq⟩ : ∃ q, m.length = q := ⟨_, rfl⟩
                rw [hq] at hck hm1 hmax
                have HQ := hide hq
                have hci : (c : Int) < 5 := by omega
                have HCK := hide hck
                have HFZ := hide hfz
                have HMBZ := hide hmbz
                clear hm hv hcap hKg hrow hq hcz hfz hmbz
                go_wp2_with (first | (go_at_call 12; refine (bytes_len _ q cap m _ HROW.out HQ.out).mono ?_; rintro e z2 ⟨rfl, ho2, hb2⟩; have ho2' := ho2.1; rw [HQ.out] at ho2'; have HO2 := hide ho2'; have HBB := hide ho2.2.1; have HB2 := hide hb2; clear ho2 hb2 ho2') | (at_builtin; refine wpList_append_own _ rfl (.tmp 82) (.tmp 86) 27 rfl z1.heap.size 5 i0 (.int .u8 0) 1 1 Tryd.underlying27 hi hz0 hz1 hz2 rfl (by decide) (.slice (some ⟨z1.heap.size, 0, none⟩) q q) q (cellsOf m) rfl (HO2.out.alloc _) ⟨z2.heap.size, 0, none⟩ 1 1 [.int .u8 ((k : Int) + 1)] rfl rfl (cell_one_new _ _ _) (by simp [Value.oneCell']) (by unfold maxLen; omega) (by omega) (by have := HB2.out.size; simp; omega) ?_; intro v' w3 hown3 hgr3 _; obtain ⟨ao3, c3, rfl⟩ := own_shape hown3; have hb3 : Below z1.heap.size z1 w3 := (HB2.out.alloc HB2.out.size _).grown hgr3 (by have := HB2.out.size; simp; omega) (fun j e => (HO2.out.lt j e).1); have hc3 : w3.cell? ⟨MB, c, none⟩ = some (.slice (some ⟨g, moff, none⟩) q cap) := (hb3.cell HMBZ.out).trans HCK.out; have hf3 : w3.frozen? ⟨MB, c, none⟩ = false := (hb3.frozen HMBZ.out).trans HFZ.out; have HO3 := hide hown3; have HB3 := hide hb3; clear hown3 hgr3 hb3))
                have hbd : 0 ≤ (k : Int) + 1 ∧ (k : Int) + 1 ≤ 255 := by omega
                obtain ⟨bb, hbb⟩ : ∃ bb, bb = (k : Int) + 1 := ⟨_, rfl⟩
                have hmo : MayOk w3 (wider K z1.heap.size w3.heap.size) (.slice ao3 (q + 1) c3) (m ++ [bb]) := by
                  refine own_mayOk (B := z1.heap.size) ?_ (by simp [HQ.out]) (by omega) ?_ (by omega) (fun g h1 h2 => .inr ⟨h1, h2⟩)
                  · rw [cellsOf_append, hbb]; exact HO3.out
                  · intro x hx
                    rcases List.mem_append.1 hx with h9 | h9
                    · exact HBB.out x h9
                    · rw [List.mem_singleton.1 h9, hbb]; exact hbd
                have hput := (HHZ.out.widen HB3.out).put HE.out HNB.out hc5 hmo (set_put (by rw [HLZ.out]; exact hc5))
                have HP := hide hput
                have HBB2 := hide hbb
                clear hput hmo hc3 hf3 hbd hbb
                refine (filled_any _ _).mono ?_
                rintro e z4 ⟨rfl, ho4, hb4⟩
                rw [show ((k : Int) + 1) % 256 = (k : Int) + 1 by omega, ← HBB2.out, size_set] at ho4
                have HO4 := hide ho4
                have HP4 := hide (HP.out.below hb4)
                clear ho4 hb4 HP
                go_wp2_with fail
                refine (write_ok d c _ _ _ HP4.out.disk (by rw [length_vssOf, HLZ.out]; exact hc5) HO4.out.row (length_fillOf _) (by rw [show (vssOf MS).getD c [] = m.map fillOf from vssOf_at HMM.out, List.length_map, HQ.out]; omega) (by omega)).mono ?_
                rintro e z5 ⟨rfl, hd5, hk5⟩
                rw [burnt_none, vssOf_write HMM.out] at hd5
                have HP5 := hide (HP4.out.turn hd5 hk5)
                clear hd5 hk5 HP4
                go_wp2_with fail
                refine ⟨?_, ?_⟩
                · refine ⟨k + 1, _, _, _, hlt, by go_num, by rw [List.length_set]; exact HLZ.out, fun x hx => ?_, HP5.out⟩
                  rcases List.mem_or_eq_of_mem_set hx with h9 | h9
                  · have := HAZ.out x h9; omega
                  · rw [h9, List.length_append, HQ.out]
                    simp only [List.length_cons, List.length_nil]
                    omega
                · simp only [intOf]
                  omega
            · go_wp2_with fail
              refine (crash_len d a1 len1 cap1 zs HH.out.disk (HZR.out.below HH.out.bel) HZL.out (fun hp b o e => by
                obtain ⟨b', o', e', hlt', _⟩ := HZR.out.2.2 hp
                rw [e'] at e
                cases e
                exact HH.out.kw b hlt')).mono ?_
              rintro e y1 ⟨rfl, hd1, hk1⟩
              have HH1 := hide (HH.out.turn hd1 hk1)
              obtain ⟨CS, hCS⟩ : ∃ CS, CS = crashed zs (vssOf ms) := ⟨_, rfl⟩
              have HCL : Hid (CS.length = 5) := by show CS.length = 5; rw [hCS, length_crashed, length_vssOf, HLEN.out]
              have HCM : Hid (∀ (j : Nat) m, ms[j]? = some m → ∃ b ∈ m, verOf CS j = [fillOf b]) := by
                intro j m hm
                rw [hCS]
                exact vssOf_crashed hm (HALL.out m (List.mem_of_getElem? hm)).1 zs
              have HNIL : Hid ((looseL CS).length = 0) := by
                show (looseL CS).length = 0
                rw [looseL_nil fun s hs => by
                  rw [HCL.out] at hs
                  obtain ⟨b, _, e⟩ := HCM.out s _ (List.getElem?_eq_getElem (by rw [HLEN.out]; exact hs))
                  rw [e]
                  exact Nat.le_refl _]
                rfl
              rw [← hCS] at HH1
              have hkm : k ≤ 40 := by omega
              clear hd1 hk1 HH hCS hlt hk
              go_wp2_with fail
              go_loopw [14] (fun i wr => ∃ j : Nat, j ≤ 5 ∧ i = .int .i64 j ∧ Held w wr a d MB K CS ms f) (fun i _ => 5 - (intOf i).toNat)
              case atStart => exact ⟨0, by omega, rfl, HH1.out⟩
              case round =>
                clear HH1
                obtain ⟨j, hj, rfl, hh⟩ := hrel
                have HH := hide hh
                clear hh
                by_cases hj5 : j < 5
                · have hji : (j : Int) < 5 := by omega
                  obtain ⟨m, hm⟩ : ∃ m, ms[j]? = some m := ⟨_, List.getElem?_eq_getElem (by rw [HLEN.out]; exact hj5)⟩
                  obtain ⟨bb, hbm, hbv⟩ := HCM.out j m hm
                  have HBM := hide hbm
                  have HM := hide hm
                  have HBV : Hid (lastV (CS.getD j []) = fillOf bb) := by
                    show lastV (verOf CS j) = fillOf bb
                    rw [hbv]
                    rfl
                  clear hm hbm hbv
                  go_wp2_with fail
                  refine (read_ok d j HH.out.disk (by rw [HCL.out]; exact hj5)).mono ?_
                  rintro e y2 ⟨g, rc, rfl, hg, hown, hlen2, hb2⟩
                  rw [HBV.out] at hown
                  have HRB := hide hown.row
                  have HH2 := hide (HH.out.below hb2)
                  have hrest : (⟨g, 0, none⟩ : Addr).block < y2.heap.size := by
                    obtain ⟨b', o', e', hlt', _⟩ := hown.row.2.2 (by rw [length_fillOf]; omega)
                    cases e'
                    exact hlt'
                  clear hown hlen2 hb2 hg hrest HH
                  obtain ⟨hm1, mg, moff, cap, hv, hcap, hKg, hrow⟩ := HH2.out.may.row j m HM.out
                  have HV := hide hv
                  have HMR := hide hrow
                  obtain ⟨q, hq⟩ : ∃ q, m.length = q := ⟨_, rfl⟩
                  rw [hq] at HV hm1
                  have HQ := hide hq
                  have hqmax : q ≤ 41 := by rw [← hq]; have := (HALL.out m (List.mem_of_getElem? HM.out)).2; omega
                  clear hv hrow hq hcap hKg
                  go_wp2_with fail
                  go_loopw [17, 18] (fun v i wr => ∃ u : Nat, u ≤ q ∧ i = .int .i64 u ∧ v = .bool (foundB (fillOf bb) m u) ∧ Row wr (some ⟨g, 0, none⟩) (fillOf bb) ∧ Held w wr a d MB K CS ms f) (fun _ i _ => q - (intOf i).toNat)
                  case atStart => exact ⟨0, by omega, rfl, by rw [foundB_zero], HRB.out, HH2.out⟩
                  case round =>
                    clear HRB HH2 HMR
                    obtain ⟨u, hu, rfl, rfl, hrb, hh⟩ := hrel
                    have HRB := hide hrb
                    have HH2 := hide hh
                    have hck := mayBlock_cell hh.may.blk j hj5
                    rw [HV.out] at hck
                    obtain ⟨_, mg', moff', cap', hv', _, _, hrow⟩ := hh.may.row j m HM.out
                    rw [HV.out] at hv'
                    simp only [Value.slice.injEq, Option.some.injEq, Addr.mk.injEq, and_true] at hv'
                    obtain ⟨⟨rfl, rfl⟩, _, _⟩ := hv'
                    clear hrb hh
                    by_cases hlu : u < q
                    · have hui : (u : Int) < (q : Int) := by omega
                      obtain ⟨b', o', e', hlt', hc⟩ := hrow.2.2 (by rw [HQ.out]; omega)
                      cases e'
                      have hcu := hc u (by rw [HQ.out]; exact hlu)
                      have hby := hrow.2.1.getD u
                      have HU : Hid (m[u]? = some (m.getD u 0)) := by
                        show m[u]? = some (m.getD u 0)
                        rw [List.getD_eq_getElem?_getD, List.getElem?_eq_getElem (by rw [HQ.out]; exact hlu)]; rfl
                      obtain ⟨y, hy⟩ : ∃ y, y = m.getD u 0 := ⟨_, rfl⟩
                      rw [← hy] at hcu hby HU
                      have HFS := hide (foundB_succ (fillOf bb) m u y HU.out)
                      clear hc hrow hy
                      cases hf : foundB (fillOf bb) m u
                      · have HF := hide hf
                        clear hf
                        go_wp2_with fail
                        refine (filled_any _ _).mono ?_
                        rintro e y3 ⟨rfl, ho3, hb3⟩
                        rw [show y % 256 = y by omega] at ho3
                        have HO3 := hide ho3
                        have HRB3 := hide (HRB.out.below hb3 (Nat.le_refl _))
                        have HH3 := hide (HH2.out.below hb3)
                        clear ho3 hb3
                        go_wp2_with fail
                        refine (same_len _ 256 _ (fillOf bb) _ 256 _ (fillOf y) _ HRB3.out HO3.out.row (length_fillOf _) (length_fillOf _)).mono ?_
                        rintro e y4 ⟨rfl, nn, rfl⟩
                        go_wp2_with fail
                        refine ⟨?_, ?_⟩
                        · exact ⟨u + 1, hlu, by go_num, by rw [HFS.out, HF.out, Bool.false_or], HRB3.out.drewN nn, HH3.out.drewN nn⟩
                        · simp only [intOf]
                          omega
                      · have HF := hide hf
                        clear hf
                        go_wp2_with fail
                        refine ⟨?_, ?_⟩
                        · exact ⟨u + 1, hlu, by go_num, by rw [HFS.out, HF.out, Bool.true_or], HRB.out, HH2.out⟩
                        · simp only [intOf]
                          omega
                    · have hu' : u = q := by omega
                      have hft : foundB (fillOf bb) m u = true := by rw [hu', ← HQ.out]; exact foundB_all HBM.out
                      rw [hft]
                      have hui : decide ((u : Int) < (q : Int)) = false := by simp; omega
                      clear hrow hu hu' hft
                      go_wp2_with fail
                      refine ⟨?_, ?_⟩
                      · exact ⟨j + 1, hj5, by go_num, HH2.out⟩
                      · simp only [intOf]
                        omega
                · have hji : decide ((j : Int) < 5) = false := by simp; omega
                  clear hj hj5
                  go_wp2_with fail
                  refine (looses_any d HH.out.disk).mono ?_
                  rintro e y2 ⟨lo, lc, rfl, _, hb2⟩
                  rw [HNIL.out]
                  have HH2 := hide (HH.out.below hb2)
                  clear hb2
                  go_wp2_with fail
                  refine (off_any d HH2.out.disk).mono ?_
                  rintro e y3 ⟨rfl, rfl⟩
                  go_wp2_with fail
                  go_ret
                  exact ⟨rfl, HH2.out.bel⟩
end Go.Proofs.YtedmgdiimfenaaaDoor.diskKeeps
