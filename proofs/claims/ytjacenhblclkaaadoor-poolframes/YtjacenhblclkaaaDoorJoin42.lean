/- Lemmas and contracts that the law stands on, joined: DtMap. -/
import Derived.Test.YtjacenhblclkaaaDoorJoin9
import Derived.Maps.OwnSet
import Derived.Maps.Ext
/- A table of dirty pages as what a map reads as. No Go text here. -/
namespace Go.Proofs.YtjacenhblclkaaaDoor
open Go.RowKit
set_option linter.unusedVariables false

/-- An entry of the map. -/
def litD (e : Int × Int) : Lit × DataW Unit := (.int .i64 e.1, .lit (.int .i64 e.2))
/-- What the map reads as. -/
def mapD (es : List (Int × Int)) : DataW Unit := .map (es.map litD)
theorem same_lit (a b : Int) : (Lit.int .i64 a).sameKey (.int .i64 b) = decide (a = b) := by simp [Lit.sameKey]
theorem has_mapD (es : List (Int × Int)) (k : Int) : Maps.has (mapD es) (.int .i64 k) = hasE es k := by
  show (es.map litD).any _ = _
  induction es with
  | nil => rfl
  | cons e r ih =>
    rw [List.map_cons, List.any_cons, ih]
    show ((Lit.int .i64 e.1).sameKey (.int .i64 k) || _) = _
    rw [same_lit]
    unfold hasE
    rw [valE]
    by_cases h : e.1 = k
    · simp [h]
    · simp [h]
theorem find_lit (es : List (Int × Int)) (k : Int) : ((es.map litD).find? fun p => p.1.sameKey (.int .i64 k)) = (valE es k).map fun v => litD (k, v) := by
  induction es with
  | nil => rfl
  | cons e r ih =>
    rw [List.map_cons, List.find?_cons, valE]
    have hs : (litD e).1.sameKey (.int .i64 k) = decide (e.1 = k) := same_lit e.1 k
    rw [hs]
    by_cases h : e.1 = k
    · subst h
      simp
    · simp only [h, decide_false, if_false]
      exact ih
theorem atKey_mapD (es : List (Int × Int)) (k : Int) (z : DataW Unit) : (mapD es).atKey (.int .i64 k) z = match valE es k with | some v => .lit (.int .i64 v) | none => z := by
  unfold mapD DataW.atKey
  simp only
  rw [find_lit]
  cases valE es k <;> rfl
theorem filter_lit (es : List (Int × Int)) (k : Int) : ((es.map litD).filter fun p => !p.1.sameKey (.int .i64 k)) = (remE k es).map litD := by
  unfold remE
  rw [List.filter_map]
  congr 1
  refine List.filter_congr fun e _ => ?_
  show (!(Lit.int .i64 e.1).sameKey (.int .i64 k)) = _
  rw [same_lit]
  by_cases h : e.1 = k <;> simp [h]
theorem del_mapD (es : List (Int × Int)) (k : Int) : (mapD es).del (.int .i64 k) = mapD (remE k es) := by
  show DataW.map _ = DataW.map _
  rw [filter_lit]
theorem insert_lit {es : List (Int × Int)} (hu : Up es) {k : Int} (hn : hasE es k = false) (v : Int) : DataW.insert (litD (k, v)) (es.map litD) = (insE k v es).map litD := by
  induction es with
  | nil => rfl
  | cons e r ih =>
    have hu' := List.pairwise_cons.1 hu
    have hn' := hasE_false.1 hn
    have h1 := hn' e (by simp)
    rw [List.map_cons, insE]
    show (if (Lit.int .i64 k).before (.int .i64 e.1) then _ else _) = _
    simp only [Lit.before, decide_eq_true_eq]
    by_cases h : k < e.1
    · rw [if_pos h, if_neg (by omega), if_neg (by omega)]; rfl
    · rw [if_neg h, if_pos (by omega), List.map_cons, ih hu'.2 (hasE_false.2 fun x hx => hn' x (by simp [hx]))]
theorem rem_of_not {es : List (Int × Int)} {k : Int} (h : hasE es k = false) : remE k es = es := List.filter_eq_self.2 fun e he => by simpa using hasE_false.1 h e he
theorem put_mapD {es : List (Int × Int)} (hu : Up es) {k : Int} (hn : hasE es k = false) (v : Int) : (mapD es).put (.int .i64 k) (.lit (.int .i64 v)) = mapD (insE k v es) := by
  show DataW.map (DataW.insert (litD (k, v)) _) = DataW.map _
  rw [filter_lit, rem_of_not hn, insert_lit hu hn]
theorem size_mapD (es : List (Int × Int)) : Maps.size (mapD es) = es.length := by
  show (es.map litD).length = _
  simp
theorem ins_ne (k v : Int) (es : List (Int × Int)) : insE k v es ≠ [] := by
  cases es with
  | nil => simp [insE]
  | cons e r =>
    rw [insE]
    split
    · simp
    · split <;> simp
/-- Keys that rise, as a list, are sorted. -/
theorem up_keys {es : List (Int × Int)} (hu : Up es) : (es.map (·.1)).Pairwise (· ≤ ·) := by
  refine List.pairwise_map.2 (hu.imp fun h => by omega)
end Go.Proofs.YtjacenhblclkaaaDoor
