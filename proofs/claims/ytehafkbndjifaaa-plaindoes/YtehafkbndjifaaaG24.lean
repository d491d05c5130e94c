/- Texts of ours, one behind the other: PlLaw1, PlLaw2. -/
import Derived.Test.YtehafkbndjifaaaG22
import Derived.Test.YtehafkbndjifaaaG23
import Derived.Lib.SlBytesConst
/- The statements of layer 11: awake; pairs that came in, by shapes. -/
namespace Go.Proofs.Ytehafkbndjifaaa
open Go.RowKit

def prSh : Sh := .struct (.cons .str (.cons (.row 1 (.int .u8)) .nil))
theorem pr_reads {lim : Nat → Nat → Prop} (hlim : LimOk lim) {w : World} (cs : List Value) (d : Dt) (h : Reads lim w prSh cs d) : ∃ x : El, cs = prC x.1 ∧ ElOk w x := by
  obtain ⟨c1, r1, d1, dr1, rfl, _, rfl, ⟨s, rfl, _, hs, _⟩, c2, r2, d2, dr2, rfl, hl2, rfl, h2, rfl, _⟩ := h
  have hc2 : ∃ v, c2 = [v] := by
    match c2, hl2 with
    | [v], _ => exact ⟨v, rfl⟩
  obtain ⟨v, rfl⟩ := hc2
  obtain ⟨bs, hr, hb⟩ := row_reads hlim h2
  obtain ⟨p, c, l, rfl, _⟩ := hr.shape
  exact ⟨(⟨s, p, l, c, false⟩, bs), rfl, hr, hb, hlim.one _ hs⟩
theorem prs_of_reads {lim : Nat → Nat → Prop} (hlim : LimOk lim) {w : World} {v : Value} {d : Dt} (h : Reads lim w (.row 40 prSh) [v] d) : ∃ L : List El, EL 2 prC w v L ∧ (∀ x ∈ L, ElOk w x) ∧ lim L.length 40 :=
  el_of_reads (by omega) prC_len rfl (pr_reads hlim) h

set_option maxRecDepth 20000 in
set_option maxHeartbeats 4000000 in
theorem pawake_any (w : World) : Calls Try.prog 14 #[] w fun e w' => e = .returned (.bool true) ∧ Below w.heap.size w w' := by
  have hcv := Lib.run_convert_bytes_const (P := Try.prog) w 26 5 #[.int .u8 49] 1 1 Try.underlying26 Try.underlying5
  obtain ⟨ka, hka⟩ : ∃ ka : ByteArray, ka = ⟨#[97]⟩ := ⟨_, rfl⟩
  obtain ⟨x, hx⟩ : ∃ x : El, x = (⟨ka, some ⟨w.heap.size, 0, none⟩, 1, 1, false⟩, [49]) := ⟨_, rfl⟩
  obtain ⟨W2, hW2⟩ : ∃ W2, W2 = (w.alloc (.cells #[.int .u8 49] 5 (1, 1 + 1))).alloc (.cells #[.string ka, .slice (some ⟨w.heap.size, 0, none⟩) 1 1, .bool false] 52) := ⟨_, rfl⟩
  have hb2 : Below w.heap.size w W2 := by rw [hW2]; exact ((Below.refl _ _).alloc (Nat.le_refl _) _).alloc (by simp) _
  have hrow : Row W2 (vof x.1) x.2 := by
    rw [hx]
    refine ⟨_, 1, rfl, Nat.le_refl _, by unfold maxLen; omega, fun e => (by cases e), Or.inr ⟨w.heap.size, 0, rfl, fun j hj => ?_⟩⟩
    have hj0 : j = 0 := by simp at hj; exact hj
    subst hj0
    have c0 : (w.alloc (.cells #[.int .u8 49] 5 (1, 1 + 1))).cell? ⟨w.heap.size, 0, none⟩ = some (B 49) := by
      rw [cell_of_row _ _ 0 _ _ (1, 1 + 1) (heap_alloc_new _ _)]
      rfl
    rw [hW2]
    exact (((Below.refl _ _).alloc (Nat.le_refl _) _).cell (World.block_lt_of_cell? _ _ c0)).trans c0
  have hel : EL 3 opC W2 (.slice (some ⟨w.heap.size + 1, 0, none⟩) 1 1) [x] := by
    refine ⟨⟨_, 1, rfl, Nat.le_refl _, by unfold maxLen; omega, fun e => (by cases e), rfl, Or.inr ⟨w.heap.size + 1, 0, rfl, fun j u hu => ?_⟩⟩, fun y hy => by rw [List.mem_singleton.1 hy]; exact hrow⟩
    rw [hx, elC_one] at hu
    rw [hW2]
    match j, hu with
    | 0, hu => simp [opC] at hu; subst hu; simp
    | 1, hu => simp [opC] at hu; subst hu; simp
    | 2, hu => simp [opC] at hu; subst hu; simp
  have hdt : dat [x] = [(ka, [49], false)] := by rw [hx]; rfl
  have hks : ka.size = 1 := by rw [hka]; rfl
  have hchk : chkE [(ka, [49], false)] = 0 := by
    unfold chkE
    simp [wrongD, largeD, kmayB, sizeN, sumD, hks]
  have hdo := pdo_any (.slice none 0 0) (.slice (some ⟨w.heap.size + 1, 0, none⟩) 1 1) [] [x] W2 (EL.nil 2 prC W2) hel (by simp) (fun y hy => by cases hy) (fun y hy => by rw [List.mem_singleton.1 hy, hx]; simp) (fun y hy => by rw [List.mem_singleton.1 hy, hx]; simp only; omega)
  have hE : doE (pdat []) (dat [x]) = 0 := by
    rw [hdt]
    unfold doE
    exact hchk
  have hD : doD (pdat []) (dat [x]) = [(ka, [49])] := by
    rw [hdt]
    simp [doD, oneD, pdat, plc]
  rw [hE, hD] at hdo
  have HDO : Hid (Calls Try.prog 23 #[.slice none 0 0, .slice (some ⟨w.heap.size + 1, 0, none⟩) 1 1] W2 fun e w' => ∃ p c, e = .returned (.tuple #[.slice p 1 c, .int .i64 0]) ∧ Hid (Below w.heap.size w w' ∧ ∀ W, Below w'.heap.size w' W → Calls Try.prog 19 #[.slice p 1 c] W fun e w'' => e = .returned (.int .i64 2) ∧ Below W.heap.size W w'')) := by
    refine hdo.mono ?_
    rintro e w' ⟨v', L', rfl, hd', ho', hb'⟩
    simp only [if_true] at hd'
    have hL1 : L'.length = 1 := by rw [← pdat_len, hd']; rfl
    obtain ⟨p, c, rfl⟩ := ho'.1.shape
    rw [hL1]
    refine ⟨p, c, rfl, hb2.trans (hb'.mono hb2.size), fun W hW => ?_⟩
    have hel' := (ho'.1.el prC_len).below hW
    rw [hL1] at hel'
    have := pbytes_any _ L' W hel' (by omega)
    rw [hd'] at this
    have hrt : rightD [(ka, [49])] = true := by
      rw [right_iff]
      refine ⟨by unfold SP; simp, fun y hy => ?_⟩
      rw [List.mem_singleton.1 hy]
      simp [pmay, kmay, hks]
    rw [hrt] at this
    have hby : bytesP [(ka, [49])] = 2 := by simp [bytesP, hks]
    rw [hby] at this
    exact this
  have HW2 := hide hW2
  rw [hka] at HW2
  clear hdo hE hD hchk hdt hel hrow hb2 hW2 hx hks hka x
  go_enter Try.func14, Try.ntmps14
  go_wp2_with fail
  rw [← unhide HW2]
  refine Calls.mono (unhide HDO) ?_
  rintro e w3 ⟨p, c, rfl, HQ⟩
  go_wp2_with fail
  refine Calls.mono ((unhide HQ).2 _ (Below.refl _ _)) ?_
  rintro e w4 ⟨rfl, hb4⟩
  have HZ := hide ((unhide HQ).1.trans (hb4.mono (unhide HQ).1.size))
  clear hb4
  go_wp2
  go_ret
  exact ⟨rfl, unhide HZ⟩
end Go.Proofs.Ytehafkbndjifaaa

/- What operations make of pairs that may be: bounds. -/
namespace Go.Proofs.Ytehafkbndjifaaa
open Go.RowKit

/-- The values of what Do answers are no longer than those that came in. -/
theorem do_bound {L M L' : List El} (hsp : SP (pdat L)) (hd : pdat L' = doD (pdat L) (dat M)) (h1 : ∀ x ∈ L, x.2.length ≤ 140737488351232) (h2 : ∀ x ∈ M, x.2.length ≤ 140737488351232) : ∀ x ∈ L', x.2.length ≤ 140737488351232 := by
  intro x hx
  have hm : (x.1.key, x.2) ∈ doD (pdat L) (dat M) := by rw [← hd]; exact List.mem_map.2 ⟨x, hx, rfl⟩
  rcases (doD_all hsp (dat M)).2.2 _ hm with h | ⟨o, ho, e, _⟩
  · obtain ⟨y, hy, e⟩ := List.mem_map.1 h
    simp only [Prod.mk.injEq] at e
    rw [← e.2]
    exact h1 y hy
  · obtain ⟨y, hy, rfl⟩ := List.mem_map.1 ho
    simp only [Prod.mk.injEq] at e
    rw [e.2]
    exact h2 y hy
theorem do_len {L M L' : List El} (hd : pdat L' = doD (pdat L) (dat M)) : L'.length ≤ L.length + M.length := by
  have := doD_len (pdat L) (dat M)
  rw [pdat_len, dat_len, ← hd, pdat_len] at this
  exact this
theorem chk_len {l : List Dat} (h : chkE l = 0) : 0 < l.length ∧ l.length ≤ 32 := by
  unfold chkE at h
  split at h
  · cases h
  · split at h
    · cases h
    · split at h
      · cases h
      · omega
theorem doE_zero {l : List Pd} {ops : List Dat} (h : doE l ops = 0) : rightD l = true ∧ chkE ops = 0 := by
  unfold doE at h
  split at h
  · exact ⟨by assumption, h⟩
  · cases h
end Go.Proofs.Ytehafkbndjifaaa
