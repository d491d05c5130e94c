/- Texts of ours, one behind the other: ThPlain4. -/
import Derived.Test.YtlbhhdldeaehkaaGreatG3
/- The words of an object whose pointers were followed; nothing here speaks of the program. -/
namespace Go.Proofs.YtlbhhdldeaehkaaGreat
open Go.RowKit

theorem wrd_get {ws l : List Int} (h : Liv ws l) {a : Int} {p j : Nat} (hp : (p : Int) = a) (ha : isOb ws a) (hj : j + 1 < szA ws a) :
    (wrdO (obT ws (toA ws l) a))[j + 1]? = some (if j < ptN (wd ws p) then toA ws l (wd ws (p + 1 + j)) else wd ws (p + 1 + j)) := by
  subst hp
  obtain ⟨g1, g2, g3⟩ := obT_good h.u32 (t := toA ws l) ha
  obtain ⟨s1, s2, s3, s4⟩ := isOb_size ha
  have hpl := ptsA_len ha
  rw [Int.toNat_natCast] at *
  rw [wrdO_good g1, List.getElem?_cons_succ]
  show (w32 ((ptsA ws (p : Int)).map (toA ws l)) ++ dtA ws (p : Int))[j]? = _
  rw [h.w32]
  unfold szA at hj
  rw [Int.toNat_natCast] at hj
  by_cases hlt : j < ptN (wd ws p)
  · rw [if_pos hlt, List.getElem?_append_left (by rw [List.length_map, hpl]; exact hlt), List.getElem?_map]
    have := ptsA_get ha (k := j) (by rw [Int.toNat_natCast]; exact hlt)
    rw [Int.toNat_natCast] at this
    rw [this]; rfl
  · rw [if_neg hlt, List.getElem?_append_right (by rw [List.length_map, hpl]; omega), List.length_map, hpl]
    unfold dtA dataO
    dsimp only
    rw [Int.toNat_natCast, List.getElem?_take, if_pos (by omega), List.getElem?_drop, show p + 1 + ptN (wd ws p) + (j - ptN (wd ws p)) = p + 1 + j by omega]
    exact wd_get (by omega)
theorem wrd_take {ws l : List Int} {a y : Int} {j : Nat} (h : (wrdO (obT ws (toA ws l) a))[j]? = some y) : (wrdO (obT ws (toA ws l) a)).take (j + 1) = (wrdO (obT ws (toA ws l) a)).take j ++ [y] := by
  rw [List.take_add_one, h]; rfl
theorem lay_snoc' {ws l M : List Int} {a : Int} : layW ((M ++ [a]).map (obT ws (toA ws l))) = layW (M.map (obT ws (toA ws l))) ++ wrdO (obT ws (toA ws l) a) := by
  rw [List.map_append, List.map_cons, List.map_nil, layW_snoc]

end Go.Proofs.YtlbhhdldeaehkaaGreat
