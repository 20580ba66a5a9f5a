
/- What the statement DiskLoads asks comes out true, at all arguments, where package api's variables hold errors of their own; nothing that was there is written. -/
import Derived.Test.YtedmgdiimfenaaaDoorLoadMath
import Derived.RegionTactic
import Derived.ChangeAlike
namespace Go.Proofs.YtedmgdiimfenaaaDoor.diskLoads
open Go.RowKit
set_option linter.unusedVariables false

theorem fill_part (x : Int) (ao : Option Addr) (c : Nat) : (⟨ao, c, fillOf x⟩ : Part).val = .slice ao 256 c := by rw [Part.val, length_fillOf]
theorem fills_len {ps : List Part} {zs : List Int} (h : ps.map (·.xs) = zs.map fun z => fillOf (z % 256)) : ∀ p ∈ ps, p.xs.length = 256 := by
  intro p hp
  have h1 : p.xs ∈ zs.map fun z => fillOf (z % 256) := by rw [← h]; exact List.mem_map.2 ⟨p, hp, rfl⟩
  obtain ⟨z, _, e⟩ := List.mem_map.1 h1
  rw [← e, length_fillOf]

theorem rows_drew {w : World} {B : Nat} {ao : Option Addr} {cap : Nat} {ps : List Part} (h : OwnRows w B ao cap ps) : OwnRows w.drew B ao cap ps := h
theorem rows_drewN {w : World} {B : Nat} {ao : Option Addr} {cap : Nat} {ps : List Part} (h : OwnRows w B ao cap ps) (n : Nat) : OwnRows (w.drewN n) B ao cap ps := h
theorem drew_below {B : Nat} {a w : World} (h : Below B a w) : Below B a w.drew := h.trans ⟨rfl, rfl, rfl, Nat.le_refl _, fun _ _ => rfl⟩

theorem below_eq {B : Nat} {a w w' : World} (e : w' = w) (h : Below B a w) : Below B a w' := by rw [e]; exact h
theorem disk_eq {w w' : World} {K : Nat → Prop} {a : Nat → Addr} {d : Nat} {vss : List (List (List Int))} {off : Bool} {fuse : Int} (e : w' = w) (h : Disk w K a d vss off fuse) : Disk w' K a d vss off fuse := by rw [e]; exact h
theorem rows_eq {w w' : World} {B : Nat} {ao : Option Addr} {cap : Nat} {ps : List Part} (e : w' = w) (h : OwnRows w B ao cap ps) : OwnRows w' B ao cap ps := by rw [e]; exact h

set_option maxRecDepth 100000 in
set_option maxHeartbeats 3000000 in
theorem walk (a0 : Option Addr) (len0 cap0 : Nat) (z0 : List Int) (a1 : Int) (w : World) (w0 : IsRow .i64 w a0 len0 cap0 z0) (w1 : (Lit.int .i64 a1).wf = true) {a : Nat → Addr} (he : SomeErrs w 18 a) :
    Calls Tryd.prog 7 #[.slice a0 len0 cap0, .int .i64 a1] w fun e w' => e = .returned (.bool true) ∧ Below w.heap.size w w' := by
  have HE := hide he.all
  obtain ⟨i0, hi, hz0, hz1, hz2⟩ := info_parts Tryd.info27
  have HR0 := hide w0
  clear w0 w1 he
  by_cases hl0 : len0 = 0
  · have hli : ((len0 : Int) == 0) = true := by simp [hl0]
    go_enter Tryd.func7, Tryd.ntmps7
    go_wp2_with fail
    refine (dfirst_any _ HE.out.errs).mono ?_
    rintro e x1 ⟨rfl, hb1⟩
    have HB1 := hide hb1
    clear hb1
    go_wp2_with fail
    go_ret
    exact ⟨rfl, HB1.out⟩
  · have hli0 : ((len0 : Int) == 0) = false := by simp [hl0]
    by_cases hl6 : 6 < len0
    · have hli : (6 : Int) < (len0 : Int) := by omega
      go_enter Tryd.func7, Tryd.ntmps7
      go_wp2_with fail
      refine (dfirst_any _ HE.out.errs).mono ?_
      rintro e x1 ⟨rfl, hb1⟩
      have HB1 := hide hb1
      clear hb1
      go_wp2_with fail
      go_ret
      exact ⟨rfl, HB1.out⟩
    · have hli : decide ((6 : Int) < (len0 : Int)) = false := by simp; omega
      obtain ⟨zs, hzl, hzr⟩ := irow_of_isrow HR0.out (by omega)
      have HZL := hide hzl
      have HZR := hide hzr
      obtain ⟨b, off, rfl, hbw, hcw⟩ := hzr.2.2 (by omega)
      have HCW := hide hcw
      rw [hzl] at HCW
      clear hzl hzr HR0 hcw
      go_enter Tryd.func7, Tryd.ntmps7
      go_wp2_with fail
      refine (dfirst_any _ HE.out.errs).mono ?_
      rintro e x1 ⟨rfl, hb1⟩
      have HB1 := hide hb1
      clear hb1
      go_wp2_with fail
      go_loopw [6, 7] (fun v i wr => ∃ (k : Nat) (ps : List Part) (mo : Option Addr) (mc : Nat), k ≤ len0 ∧ i = .int .i64 k ∧ v = .slice mo k mc ∧ ps.length = k ∧ ps.map (·.xs) = (zs.take k).map (fun z => fillOf (z % 256)) ∧ OwnRows wr x1.heap.size mo mc ps ∧ Below x1.heap.size x1 wr) (fun _ i _ => len0 - (intOf i).toNat)
      case atStart => exact ⟨0, [], none, 0, by omega, rfl, rfl, rfl, rfl, ⟨World.ownsRow_nil _ _ _ _, fun p hp => by simp at hp⟩, Below.refl _ _⟩
      case round =>
        obtain ⟨k, ps, mo, mc, hk, rfl, rfl, hpl, hps, hown, hbel⟩ := hrel
        have HO := hide hown
        have HB := hide hbel
        have HPL := hide hpl
        have HPS := hide hps
        have HBW := hide (over HB1.out hbel HB1.out.size)
        clear hown hbel hpl hps
        by_cases hlt : k < len0
        · have hki : (k : Int) < (len0 : Int) := by omega
          have hcz := (HBW.out.cell (p := ⟨b, off + k, none⟩) hbw).trans (HCW.out k hlt)
          have HZK : Hid (zs[k]? = some (zs.getD k 0)) := by
            show zs[k]? = some (zs.getD k 0)
            rw [List.getD_eq_getElem?_getD, List.getElem?_eq_getElem (by rw [HZL.out]; exact hlt)]; rfl
          obtain ⟨y, hy⟩ : ∃ y, y = zs.getD k 0 := ⟨_, rfl⟩
          rw [← hy] at hcz HZK
          clear hy
          go_wp2_with (first | (go_at_call 14; refine (filled_any _ _).mono ?_; rintro e w2 ⟨rfl, hown2, hbel2⟩; have HO2 := hide (HO.out.below hbel2); have HN2 := hide hown2; have HB2 := hide hbel2; clear hown2 hbel2) | (at_builtin; refine wpList_append_own _ rfl (.tmp 33) (.tmp 39) 50 rfl x1.heap.size 27 i0 (.slice none 0 0) 1 24 Tryd.underlying50 hi hz0 hz1 hz2 rfl (by decide) (.slice mo k mc) k (ps.map Part.val) rfl (by have h9 := HO2.out.1.alloc (.cells #[.slice (some ⟨wr.heap.size, 0, none⟩) 256 256] 27); rw [HPL.out] at h9; exact h9) ⟨w2.heap.size, 0, none⟩ 1 1 [.slice (some ⟨wr.heap.size, 0, none⟩) 256 256] rfl rfl (cell_one_new _ _ _) (by simp [Value.oneCell']) (by unfold maxLen; omega) (by omega) (by have := HB.out.size; have := HB2.out.size; simp; omega) ?_; intro v' w3 hown3 hgr3 _; have HO3 := hide hown3; have HG3 := hide hgr3; clear hown3 hgr3))
          go_roundw
          case rel =>
            obtain ⟨ao', c3, rfl⟩ := own_shape HO3.out
            have hsz := HB.out.size
            have hsz2 := HB2.out.size
            refine ⟨k + 1, ps ++ [⟨some ⟨wr.heap.size, 0, none⟩, 256, fillOf (y % 256)⟩], ao', c3, by omega, by go_num, rfl, by simp [HPL.out], ?_, ⟨?_, ?_⟩, ?_⟩
            · rw [take_snoc_any HZK.out, List.map_append, List.map_append, HPS.out]
              rfl
            · rw [List.length_append, HPL.out, List.map_append]
              simp only [List.map_cons, List.map_nil, fill_part]
              exact HO3.out
            · have hrow : (w2.alloc (.cells #[.slice (some ⟨wr.heap.size, 0, none⟩) 256 256] 27)).ownsRow x1.heap.size 27 1 (.slice mo k mc) k (ps.map Part.val) := by
                have h9 := HO2.out.1.alloc (.cells #[.slice (some ⟨wr.heap.size, 0, none⟩) 256 256] 27)
                rw [HPL.out] at h9
                exact h9
              have hal : Below w2.heap.size w2 (w2.alloc (.cells #[.slice (some ⟨wr.heap.size, 0, none⟩) 256 256] 27)) := (Below.refl _ _).alloc (Nat.le_refl _) _
              intro q hq
              rcases List.mem_append.1 hq with h9 | h9
              · exact ((HO2.out.2 q h9).below hal (Nat.le_refl _)).grown hrow HG3.out
              · rw [List.mem_singleton.1 h9]
                exact (((HN2.out.mono hsz).below hal (Nat.le_refl _)).grown hrow HG3.out)
            · exact ((over HB.out HB2.out hsz).alloc (by omega) _).grown HG3.out (by simp; omega) (fun j e => by have h9 := HO.out.1; rw [HPL.out] at h9; exact (h9.lt j e).1)
          case measure => simp [intOf]; omega
        · have hkl : k = len0 := by omega
          subst hkl
          have hpz : ps.map (·.xs) = zs.map fun z => fillOf (z % 256) := by
            have := HPS.out
            rw [List.take_of_length_le (by rw [HZL.out]; exact Nat.le_refl _)] at this
            exact this
          have HPZ := hide hpz
          have HP256 := hide (fills_len hpz)
          clear hpz HPS hlt hk
          go_wp2_with fail
          refine (new_any _ k (.inr (.inl ⟨by omega, by omega, by omega⟩)) (HE.out.below HBW.out).errs).mono ?_
          rintro e x2 ⟨d, rfl, hd, hdisk, hb2⟩
          obtain ⟨N1, hN1⟩ : ∃ N1, N1 = wr.heap.size := ⟨_, rfl⟩
          rw [← hN1] at hdisk
          have HD := hide hdisk
          have HB2 := hide (over HBW.out hb2 HBW.out.size)
          have HO2 := hide (HO.out.below hb2)
          have HLO : Hid (∀ g, (∃ p ∈ ps, p.val.ownBlock = some g) ∨ (Value.slice mo ps.length mc).ownBlock = some g → g < N1 ∧ x1.heap.size ≤ g) := by
            intro g hg
            rw [hN1]
            rcases hg with ⟨p, hp, e⟩ | e
            · exact ⟨((HO.out.2 p hp).1.lt g e).2, ((HO.out.2 p hp).1.lt g e).1⟩
            · exact ⟨(HO.out.1.lt g e).2, (HO.out.1.lt g e).1⟩
          have HW1 : Hid (w.heap.size ≤ N1) := by show w.heap.size ≤ N1; rw [hN1]; exact HBW.out.size
          clear hdisk hb2 hd HO HB HBW hN1
          go_wp2_with fail
          refine (filled_any _ _).mono ?_
          rintro e x3 ⟨rfl, ho3, hb3⟩
          have HF3 := hide ho3
          have HD3 := hide (HD.out.below hb3)
          have HB3 := hide (over HB2.out hb3 HB2.out.size)
          have HO3 := hide (HO2.out.below hb3)
          clear ho3 hb3 HD HB2 HO2
          go_wp2_with fail
          refine (write_ok d 0 _ _ _ HD3.out (by rw [List.length_replicate]; omega) HF3.out.row (length_fillOf _) (by rw [verOf_rep k 0 _ (by omega)]; simp) (by omega)).mono ?_
          rintro e x4 ⟨rfl, hd4, hk4⟩
          have HD4 := hide hd4
          have HB4 := hide (kept_over HB3.out HW1.out hk4)
          have HO4 : Hid (OwnRows x4 x1.heap.size mo mc ps) := ⟨owns_of_block HO3.out.1 fun g hg _ => hk4.block g (HLO.out g (.inr hg)).1, fun p hp => (HO3.out.2 p hp).of_block fun g hg _ => hk4.block g (HLO.out g (.inl ⟨p, hp, hg⟩)).1⟩
          clear hd4 hk4 HD3 HB3 HO3 HF3
          go_wp2_with fail
          refine (load_ok d mo mc ps HD4.out (HO4.out.rows2 (by rw [HPL.out]; omega) (fun p hp => by rw [HP256.out p hp]; omega)) k HPL.out (by rw [List.length_set, List.length_replicate]) HP256.out (fun b o e => (HLO.out b (.inr (by rw [e]; rfl))).1) (fun p hp b o e => (HLO.out b (.inl ⟨p, hp, by rw [Part.val, e]; rfl⟩)).1)).mono ?_
          rintro e x5 ⟨rfl, hd5, hk5⟩
          have HD5 := hide hd5
          have HB5 := hide (kept_over HB4.out HW1.out hk5)
          have HO5 : Hid (OwnRows x5 x1.heap.size mo mc ps) := ⟨owns_of_block HO4.out.1 fun g hg _ => hk5.block g (HLO.out g (.inr hg)).1, fun p hp => (HO4.out.2 p hp).of_block fun g hg _ => hk5.block g (HLO.out g (.inl ⟨p, hp, hg⟩)).1⟩
          obtain ⟨LV, hLV⟩ : ∃ LV, LV = ps.map fun p => [p.xs] := ⟨_, rfl⟩
          rw [← hLV] at HD5
          have HVL : Hid (LV.length = k) := by show LV.length = k; rw [hLV, List.length_map, HPL.out]
          have HVA : Hid (∀ (j : Nat) (z : Int), zs[j]? = some z → LV.getD j [] = [fillOf (z % 256)]) := by
            intro j z hz
            have h1 : (ps.map (·.xs))[j]? = some (fillOf (z % 256)) := by rw [HPZ.out, List.getElem?_map, hz]; rfl
            rw [List.getElem?_map] at h1
            obtain ⟨p, hp, e⟩ := Option.map_eq_some_iff.1 h1
            rw [hLV, List.getD_eq_getElem?_getD, List.getElem?_map, hp, ← e]
            rfl
          have HNIL : Hid ((looseL LV).length = 0) := by
            show (looseL LV).length = 0
            rw [looseL_nil fun s hs => by
              rw [HVL.out] at hs
              rw [verOf, HVA.out s _ (List.getElem?_eq_getElem (by rw [HZL.out]; exact hs))]
              exact Nat.le_refl _]
            rfl
          clear hd5 hk5 hLV HD4 HB4 HO4
          go_wp2_with fail
          refine (looses_any d HD5.out).mono ?_
          rintro e x6 ⟨lo, lc, rfl, _, hb6⟩
          rw [HNIL.out]
          have HD6 := hide (HD5.out.below hb6)
          have HB6 := hide (over HB5.out hb6 HB5.out.size)
          have HO6 := hide (HO5.out.below hb6)
          clear hb6 HD5 HB5 HO5
          have hcb := numberB_bd a1 (k : Int) (by omega)
          obtain ⟨c, hc⟩ : ∃ c : Nat, numberB a1 (k : Int) = c := ⟨(numberB a1 (k : Int)).toNat, by omega⟩
          have hck : c < k := by omega
          have hcki : (c : Int) < (k : Int) := by omega
          have HCN := hide hc
          clear hcb hc
          go_wp2_with fail
          refine (number_any _ _ _ (by omega) (by omega)).mono ?_
          rintro e x7 ⟨rfl, rfl⟩
          rw [HCN.out]
          obtain ⟨p, hp⟩ : ∃ p, ps[c]? = some p := ⟨_, List.getElem?_eq_getElem (by rw [HPL.out]; exact hck)⟩
          have hpm := List.mem_of_getElem? hp
          have hp256 := HP256.out p hpm
          obtain ⟨mg, rfl, hmg1, hmg2, hcm⟩ := HO6.out.at hp
          have hpo := HO6.out.2 p hpm
          obtain ⟨pg, hpe, hpg1, hpg2⟩ := hpo.first (by omega)
          obtain ⟨po, pc, px⟩ := p
          simp only at hp256 hpo hpe hcm
          subst hpe
          rw [Part.val, hp256] at hcm
          have hc7 := hpo.cell 7 (by omega)
          have hf7 := hpo.frozen 7
          have hby := hpo.2.1.getD 7
          obtain ⟨y, hy⟩ : ∃ y, y = px.getD 7 0 := ⟨_, rfl⟩
          rw [← hy] at hc7 hby
          have HPO := hide hpo
          have HPG : Hid (pg < N1 ∧ x1.heap.size ≤ pg) := HLO.out pg (.inl ⟨_, hpm, rfl⟩)
          clear hpo hy hp hpm
          go_wp2_with fail
          go_region
          have hbd : 0 ≤ (y + 1) % 256 ∧ (y + 1) % 256 ≤ 255 := by omega
          obtain ⟨qs, hqv, hqo⟩ := HO6.out.touch (g := pg) (j := 7) HPO.out rfl ((y + 1) % 256) hbd.1 hbd.2
          have hbs := HB6.out.setCell (p := ⟨pg, 7, none⟩) (Nat.le_trans HB1.out.size HPG.out.2) (.int .u8 ((y + 1) % 256))
          have hds := HD6.out.setOther (p := ⟨pg, 7, none⟩) HPG.out.1 (.int .u8 ((y + 1) % 256)) (errsK HE.out.errs hbs (fun b hb => Nat.lt_of_lt_of_le hb HW1.out))
          obtain ⟨X, hX⟩ : ∃ X, X = (x7.setCell ⟨pg, 7, none⟩ (.int .u8 ((y + 1) % 256))).drew := ⟨_, rfl⟩
          have HBX : Hid (Below w.heap.size w X) := by show Below _ _ _; rw [hX]; exact drew_below hbs
          have HDX : Hid (Disk X (fun b => b < N1) a d LV false (-1)) := by show Disk _ _ _ _ _ _ _; rw [hX]; exact hds.drew
          have HQX : Hid (OwnRows X x1.heap.size (some ⟨mg, 0, none⟩) mc qs) := by show OwnRows _ _ _ _ _; rw [hX]; exact rows_drew hqo
          have HQL : Hid (qs.length = k) := by show qs.length = k; have := congrArg List.length hqv; rw [List.length_map, List.length_map, HPL.out] at this; exact this
          have HQ256 := hide (val_len hqv HP256.out)
          rw [← hX]
          clear hX hbs hds hqv hqo hbd hc7 hf7 hby hcm hmg1 hmg2 hpg1 hpg2 hp256 HPO HPG HD6 HB6 HO6
          go_wp2_with fail
          refine (image_any d HDX.out).mono ?_
          rintro e y1 ⟨ao, ac, as', rfl, has, hao, hab⟩
          rw [HVL.out]
          have has256 : ∀ p ∈ as', p.xs.length = 256 := by
            intro p hp
            have h1 : p.xs ∈ LV.map firstV := by rw [← has]; exact List.mem_map.2 ⟨p, hp, rfl⟩
            obtain ⟨vs, hvs, e⟩ := List.mem_map.1 h1
            obtain ⟨j, hj⟩ := List.getElem?_of_mem hvs
            have hjl : j < k := by have := (List.getElem?_eq_some_iff.1 hj).1; rw [HVL.out] at this; exact this
            have h2 := HVA.out j _ (List.getElem?_eq_getElem (by rw [HZL.out]; exact hjl))
            rw [List.getD_eq_getElem?_getD, hj] at h2
            rw [← e, show vs = _ from h2]
            exact length_fillOf _
          have hasl : as'.length = k := by have := congrArg List.length has; rw [List.length_map, List.length_map, HVL.out] at this; exact this
          obtain ⟨p2, hp2⟩ : ∃ p2, as'[c]? = some p2 := ⟨_, List.getElem?_eq_getElem (by rw [hasl]; exact hck)⟩
          have hp2m := List.mem_of_getElem? hp2
          have hp2l := has256 p2 hp2m
          obtain ⟨ag, rfl, hag1, hag2, hac⟩ := hao.at hp2
          have hpo2 := hao.2 p2 hp2m
          obtain ⟨qg, hqe, hqg1, hqg2⟩ := hpo2.first (by omega)
          obtain ⟨po2, pc2, px2⟩ := p2
          simp only at hp2l hpo2 hqe hac
          subst hqe
          rw [Part.val, hp2l] at hac
          have hc9 := hpo2.cell 9 (by omega)
          have hf9 := hpo2.frozen 9
          have hby2 := hpo2.2.1.getD 9
          obtain ⟨y9, hy9⟩ : ∃ y9, y9 = px2.getD 9 0 := ⟨_, rfl⟩
          rw [← hy9] at hc9 hby2
          have HAB := hide hab
          clear hab hao hpo2 hy9 hp2 hp2m has has256 hasl hp2l
          go_wp2_with fail
          go_region
          have hbY : Below X.heap.size X (y1.setCell ⟨qg, 9, none⟩ (.int .u8 ((y9 + 1) % 256))).drew := drew_below (HAB.out.setCell (p := ⟨qg, 9, none⟩) hqg1 _)
          have HDY := hide (HDX.out.below hbY)
          have HBY := hide (over HBX.out hbY HBX.out.size)
          have HQY := hide (HQX.out.below hbY)
          obtain ⟨Y, hY⟩ : ∃ Y, Y = (y1.setCell ⟨qg, 9, none⟩ (.int .u8 ((y9 + 1) % 256))).drew := ⟨_, rfl⟩
          rw [← hY] at HDY HBY HQY ⊢
          clear hY hbY hc9 hf9 hby2 hac hag1 hag2 hqg1 hqg2 HAB HDX HBX HQX
          go_wp2_with fail
          refine (image_any d HDY.out).mono ?_
          rintro e z1 ⟨bo, bc, bs, rfl, hbs, hbo, hbb⟩
          rw [HVL.out]
          have HBS : Hid (∀ (j : Nat) (z : Int), zs[j]? = some z → ∃ p, bs[j]? = some p ∧ p.xs = fillOf (z % 256)) := by
            intro j z hz
            have h1 : (bs.map (·.xs))[j]? = some (fillOf (z % 256)) := by
              have hjl : j < LV.length := by rw [HVL.out, ← HZL.out]; exact (List.getElem?_eq_some_iff.1 hz).1
              have h2 := HVA.out j z hz
              rw [List.getD_eq_getElem?_getD, List.getElem?_eq_getElem hjl] at h2
              rw [hbs, List.getElem?_map, List.getElem?_eq_getElem hjl]
              rw [show LV[j] = [fillOf (z % 256)] from h2]
              rfl
            rw [List.getElem?_map] at h1
            exact Option.map_eq_some_iff.1 h1
          have HDZ := hide (HDY.out.below hbb)
          have HBZ := hide (over HBY.out hbb HBY.out.size)
          have HQZ := hide (HQY.out.below hbb)
          have HBO := hide hbo
          clear hbs hbo hbb HDY HBY HQY
          go_wp2_with fail
          go_loopw [12] (fun i wr => ∃ j : Nat, j ≤ k ∧ i = .int .i64 j ∧ Disk wr (fun b => b < N1) a d LV false (-1) ∧ OwnRows wr x1.heap.size (some ⟨mg, 0, none⟩) mc qs ∧ OwnRows wr Y.heap.size bo bc bs ∧ Below w.heap.size w wr) (fun i _ => k - (intOf i).toNat)
          case atStart => exact ⟨0, by omega, rfl, HDZ.out, HQZ.out, HBO.out, HBZ.out⟩
          case round =>
            clear HDZ HQZ HBO HBZ
            obtain ⟨j, hj, rfl, hd, hq, hbo, hbel⟩ := hrel
            have HD := hide hd
            have HQ := hide hq
            have HBO := hide hbo
            have HB := hide hbel
            clear hd hq hbo hbel
            by_cases hlt : j < k
            · have hji : (j : Int) < (k : Int) := by omega
              have HZJ : Hid (zs[j]? = some (zs.getD j 0)) := by
                show zs[j]? = some (zs.getD j 0)
                rw [List.getD_eq_getElem?_getD, List.getElem?_eq_getElem (by rw [HZL.out]; exact hlt)]; rfl
              have hcz := HCW.out j hlt
              obtain ⟨u, hu⟩ : ∃ u, u = zs.getD j 0 := ⟨_, rfl⟩
              rw [← hu] at hcz HZJ
              obtain ⟨p3, hp3, hx3⟩ := HBS.out j u HZJ.out
              have HP3 := hide hp3
              have HX3 := hide hx3
              clear hu hp3 hx3
              go_wp2_with fail
              refine (read_ok d j HD.out (by rw [HVL.out]; exact hlt)).mono ?_
              rintro e v1 ⟨g, rc, rfl, hg, hown, hlen2, hb1⟩
              rw [HVA.out j u HZJ.out, lastV_one] at hown
              have HRC := hide hown.row
              have HD1 := hide (HD.out.below hb1)
              have HQ1 := hide (HQ.out.below hb1)
              have HBO1 := hide (HBO.out.below hb1)
              have HBV := hide (over HB.out hb1 HB.out.size)
              have hcv := (HBV.out.cell (p := ⟨b, off + j, none⟩) hbw).trans hcz
              clear hown hlen2 hb1 hg hcz
              go_wp2_with fail
              refine (filled_any _ _).mono ?_
              rintro e v2 ⟨rfl, ho2, hb2⟩
              have HF2 := hide ho2
              have HRC2 := hide (HRC.out.below hb2 (Nat.le_refl _))
              have HD2 := hide (HD1.out.below hb2)
              have HQ2 := hide (HQ1.out.below hb2)
              have HBO2 := hide (HBO1.out.below hb2)
              have HBV2 := hide (over HBV.out hb2 HBV.out.size)
              clear ho2 hb2 hcv HRC HD1 HQ1 HBO1 HBV
              have hsame : sameB (fillOf (u % 256)) (fillOf (u % 256)) = true := sameB_true rfl
              have HSM := hide hsame
              clear hsame
              go_wp2_with fail
              refine (same_len _ 256 _ (fillOf (u % 256)) _ 256 _ (fillOf (u % 256)) _ HRC2.out HF2.out.row (length_fillOf _) (length_fillOf _)).mono ?_
              rintro e v3 ⟨rfl, nn, rfl⟩
              rw [HSM.out]
              obtain ⟨bg, hbg, _, _, hcb⟩ := HBO2.out.at HP3.out
              subst hbg
              obtain ⟨po3, pc3, px3⟩ := p3
              have hx3 : px3 = fillOf (u % 256) := HX3.out
              have hro3 := (HBO2.out.2 _ (List.mem_of_getElem? HP3.out)).row
              simp only at hro3
              rw [hx3] at hro3
              rw [Part.val, hx3, length_fillOf] at hcb
              have HRO3 := hide hro3
              clear hro3 hx3 HX3 HP3
              go_wp2_with fail
              refine (same_len _ 256 _ (fillOf (u % 256)) _ 256 _ (fillOf (u % 256)) _ (HRO3.out.drewN nn) (HRC2.out.drewN nn) (length_fillOf _) (length_fillOf _)).mono ?_
              rintro e v4 ⟨rfl, nn2, rfl⟩
              rw [HSM.out]
              go_wp2_with fail
              refine ⟨?_, ?_⟩
              · exact ⟨j + 1, hlt, by go_num, HD2.out.drewN (nn + nn2), rows_drewN HQ2.out (nn + nn2), rows_drewN HBO2.out (nn + nn2), below_drewN HBV2.out (nn + nn2)⟩
              · simp only [intOf]
                omega
            · clear hj
              have hmc : k ≤ mc := by
                rcases HQ.out.1.2 with ⟨e, _⟩ | ⟨_, _, _, e, _, _, h5, _⟩
                · simp at e
                · simp only [Value.slice.injEq, true_and] at e
                  rw [HQL.out] at h5
                  omega
              have hmci : (k : Int) ≤ (mc : Int) := by omega
              have hcm1 : (c : Int) ≤ (mc : Int) := by omega
              have hcm2 : (c : Int) + 1 ≤ (k : Int) := by omega
              have hwr : IntKind.i64.wrap ((c : Int) + 1) = (c : Int) + 1 := by rw [IntKind.wrap_i64]; omega
              have hE0 := (HE.out.below HB.out).cell 0 (by omega)
              have hct : ((c : Int) + 1).toNat = c + 1 := by omega
              have hct2 : (0 : Int) ≤ (c : Int) + 1 := by omega
              by_cases hmce : mc = c + 1
              · obtain hkc : k = c + 1 := by omega
                subst hmce
                subst hkc
                have hx1 : (c : Int) ≤ (c : Int) + 1 := by omega
                clear hcm1 hmci hcm2 hmc hcki
                go_wp2_with fail
                go_region_held3 (fun w' => w'.cell? ⟨0, 0, none⟩ = some (errV (a 0))) (first | go_keep | assumption)
                  (first
                    | (refine step_append_run (by rfl) (.tmp 141) (.tmp 145) 50 (by rfl) _ _ (by rfl) (by rfl) HR1.out ?_)
                    | (refine step_append_run (by rfl) (.tmp 140) (.tmp 146) 50 (by rfl) _ _ (by rfl) (by rfl) HR2.out ?_)
                    | (go_at_call_of 23 lo; refine (load_short d lo lc ls HD3.out HROWS.out (c + 1) HLL.out HVL.out.symm HBAD.out).mono ?_; rintro e v4 ⟨rfl, hv4⟩; have HB4 := hide (below_eq hv4 HB3.out); have hE5 := (HE.out.below HB4.out).cell 0 (by omega); have HD4 := hide (disk_eq hv4 HD3.out); clear hv4)
                    | (go_at_call_of 23 (Value.slice none 0 0); refine (load_range d none 0 0 HD.out.drew (by rw [HVL.out]; omega)).mono ?_; rintro e v0 ⟨rfl, hv0⟩; have HB0 := hide (below_eq hv0 (drew_below HB.out)); have hE1 := (HE.out.below HB0.out).cell 0 (by omega); have HD0 := hide (disk_eq hv0 HD.out.drew); have HQ0 := hide (rows_eq hv0 (rows_drew HQ.out)); clear hv0)
                    | (go_at_call_of 21 (errV (a 2)); refine (is_err _ a 2 (by omega) _ (by omega) (HE.out.below HB4.out)).mono ?_; rintro e v5 ⟨rfl, hb5⟩; have HB5 := hide (over HB4.out hb5 HB4.out.size); have hE6 := (HE.out.below HB5.out).cell 0 (by omega); have HD5 := hide (HD4.out.below hb5); clear hb5)
                    | (go_at_call_of 21 (errV (a 1)); refine (is_err _ a 1 (by omega) _ (by omega) (HE.out.below HB0.out)).mono ?_; rintro e v1 ⟨rfl, hb1⟩; have HBV1 := hide (over HB0.out hb1 HB0.out.size); have hE2 := (HE.out.below HBV1.out).cell 0 (by omega); have hE2n := World.new_ne v1 ⟨0, 0, none⟩ hE2; have HQV1 := HQ0.out.below hb1; obtain ⟨v2, w2, w3, lo, lc, ls, hr1, hr2, hrows, hll, hbad, hb3, hb2, _⟩ := nil_at HQV1 HQL.out hck (by omega) (Nat.le_refl _) HQ256.out (some ⟨mg, 0, none⟩) (by rw [if_pos rfl]); rw [Nat.sub_self] at hr1; have HR1 := hide hr1; have HR2 := hide hr2; have HROWS := hide hrows; have HLL := hide hll; have HBAD := hide hbad; have HD3 := hide ((HD0.out.below hb1).below hb3); have HB3 := hide (over HBV1.out hb3 HBV1.out.size); have hE3 := (HE.out.below (over HBV1.out hb2 HBV1.out.size)).cell 0 (by omega); have hE4 := (HE.out.below HB3.out).cell 0 (by omega); clear hb1 HQV1 hr1 hr2 hrows hll hbad hb3 hb2)
                    | (go_at_call 19; refine (off_any d HD5.out).mono ?_; rintro e v6 ⟨rfl, hv6⟩; have HB6 := hide (below_eq hv6 HB5.out); have hE7 := (HE.out.below HB6.out).cell 0 (by omega); clear hv6))
                go_wp2_with fail
                go_ret
                exact ⟨rfl, HB6.out⟩
              · go_wp2_with fail
                go_region_held3 (fun w' => w'.cell? ⟨0, 0, none⟩ = some (errV (a 0))) (first | go_keep | assumption)
                  (first
                    | (refine step_append_run (by rfl) (.tmp 141) (.tmp 145) 50 (by rfl) _ _ (by rfl) (by rfl) HR1.out ?_)
                    | (refine step_append_run (by rfl) (.tmp 140) (.tmp 146) 50 (by rfl) _ _ (by rfl) (by rfl) HR2.out ?_)
                    | (go_at_call_of 23 (Value.slice lo k lc); refine (load_short d lo lc ls HD3.out HROWS.out k HLL.out HVL.out.symm HBAD.out).mono ?_; rintro e v4 ⟨rfl, hv4⟩; have HB4 := hide (below_eq hv4 HB3.out); have hE5 := (HE.out.below HB4.out).cell 0 (by omega); have HD4 := hide (disk_eq hv4 HD3.out); clear hv4)
                    | (go_at_call_of 23 (Value.slice none 0 0); refine (load_range d none 0 0 HD.out.drew (by rw [HVL.out]; omega)).mono ?_; rintro e v0 ⟨rfl, hv0⟩; have HB0 := hide (below_eq hv0 (drew_below HB.out)); have hE1 := (HE.out.below HB0.out).cell 0 (by omega); have HD0 := hide (disk_eq hv0 HD.out.drew); have HQ0 := hide (rows_eq hv0 (rows_drew HQ.out)); clear hv0)
                    | (go_at_call_of 21 (errV (a 2)); refine (is_err _ a 2 (by omega) _ (by omega) (HE.out.below HB4.out)).mono ?_; rintro e v5 ⟨rfl, hb5⟩; have HB5 := hide (over HB4.out hb5 HB4.out.size); have hE6 := (HE.out.below HB5.out).cell 0 (by omega); have HD5 := hide (HD4.out.below hb5); clear hb5)
                    | (go_at_call_of 21 (errV (a 1)); refine (is_err _ a 1 (by omega) _ (by omega) (HE.out.below HB0.out)).mono ?_; rintro e v1 ⟨rfl, hb1⟩; have HBV1 := hide (over HB0.out hb1 HB0.out.size); have hE2 := (HE.out.below HBV1.out).cell 0 (by omega); have hE2n := World.new_ne v1 ⟨0, 0, none⟩ hE2; have HQV1 := HQ0.out.below hb1; obtain ⟨v2, w2, w3, lo, lc, ls, hr1, hr2, hrows, hll, hbad, hb3, hb2, _⟩ := nil_at HQV1 HQL.out hck (by omega) hmc HQ256.out (some ⟨mg, c + 1, none⟩) (by rw [if_neg hmce]); have HR1 := hide hr1; have HR2 := hide hr2; have HROWS := hide hrows; have HLL := hide hll; have HBAD := hide hbad; have HD3 := hide ((HD0.out.below hb1).below hb3); have HB3 := hide (over HBV1.out hb3 HBV1.out.size); have hE3 := (HE.out.below (over HBV1.out hb2 HBV1.out.size)).cell 0 (by omega); have hE4 := (HE.out.below HB3.out).cell 0 (by omega); clear hb1 HQV1 hr1 hr2 hrows hll hbad hb3 hb2)
                    | (go_at_call 19; refine (off_any d HD5.out).mono ?_; rintro e v6 ⟨rfl, hv6⟩; have HB6 := hide (below_eq hv6 HB5.out); have hE7 := (HE.out.below HB6.out).cell 0 (by omega); clear hv6))
                go_wp2_with fail
                go_ret
                exact ⟨rfl, HB6.out⟩
end Go.Proofs.YtedmgdiimfenaaaDoor.diskLoads
