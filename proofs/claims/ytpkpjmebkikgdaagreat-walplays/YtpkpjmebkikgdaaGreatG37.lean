/- Texts of ours, one behind the other: WalUp1, WalUp2, WalUp3. -/
import Derived.Test.YtpkpjmebkikgdaaGreatG31
import Derived.Test.YtpkpjmebkikgdaaGreatG32
/- A log on a device that is up, armed or not: what an append makes of it. Nothing here speaks of the program. -/
namespace Go.Proofs.YtpkpjmebkikgdaaGreat
open Go.RowKit

theorem write_up {s : DK} {t : Nat} {x : List UInt8} (hn : (s.n : Int) = 256) (hf : s.fell = false) (hx : x.length ≤ 496) :
    s.writeE (logN 256 t) (sealed 77 t x) = (if s.armed = 1 then 40 else 0) ∧ (s.write (logN 256 t) (sealed 77 t x)).fell = (s.armed == 1) := by
  have hno := log_there s 256 t fits256 hn
  have hln := length_sealed 77 t x hx
  constructor
  · unfold DK.writeE
    rw [if_neg (by rw [hf]; decide), if_neg (by rw [hno, hln]; simp)]
  · unfold DK.write
    rw [if_neg (by rw [hf]; decide), if_neg (by rw [hno, hln]; simp)]
    rfl
theorem lay_up : ∀ (ls : List (List UInt8)) (s : DK) (t : Nat), (s.n : Int) = 256 → s.fell = false → (∀ x ∈ ls, x.length ≤ 496) →
    (((layW 256 s t ls).2 = 0 ∧ (layW 256 s t ls).1.fell = false) ∨ ((layW 256 s t ls).2 = 40 ∧ (layW 256 s t ls).1.fell = true)) ∧ (layW 256 s t ls).1.waits.length ≤ s.waits.length + ls.length ∧ (layW 256 s t ls).1.ticks ≤ s.ticks + ls.length
  | [], s, t, _, hf, _ => ⟨Or.inl ⟨rfl, hf⟩, Nat.le_refl _, Nat.le_refl _⟩
  | x :: l, s, t, hn, hf, hl => by
    obtain ⟨e1, e2⟩ := write_up (s := s) (t := t) (x := x) hn hf (hl x (by simp))
    obtain ⟨w1, w2⟩ := write_waits s (logN 256 t) (sealed 77 t x)
    unfold layW
    by_cases ha : s.armed = 1
    · rw [if_pos ha] at e1
      rw [if_pos (by rw [e1]; decide)]
      refine ⟨Or.inr ⟨e1, by rw [e2, ha]; rfl⟩, ?_, ?_⟩
      · simp only [List.length_cons]; omega
      · simp only [List.length_cons]; omega
    · rw [if_neg ha] at e1
      rw [if_neg (by rw [e1]; decide)]
      obtain ⟨h1, h2, h3⟩ := lay_up l (s.write (logN 256 t) (sealed 77 t x)) (t + 1) (by rw [write_n]; exact hn) (by rw [e2]; simp [ha]) (fun y hy => hl y (by simp [hy]))
      refine ⟨h1, ?_, ?_⟩
      · simp only [List.length_cons]; omega
      · simp only [List.length_cons]; omega
/-- What an append makes of a device that is up. -/
structure AppUp (s : DK) (L : LG) (r : List UInt8) : Prop where
  which : appE 256 s L r = 40 ∨ appE 256 s L r = if 8192 < r.length then 4 else if 30 - ((L.next - L.first : Nat) : Int) < countN r.length then 3 else 0
  falls : appE 256 s L r = 40 → ¬ 8192 < r.length ∧ ¬ 30 - ((L.next - L.first : Nat) : Int) < countN r.length ∧ (appS 256 s L r).fell = true ∧ appL 256 s L r = L.down ∧ appS 256 s L r = (layW 256 s L.next (cutL L.age L.next r)).1
  stays : appE 256 s L r ≠ 40 → (appS 256 s L r).fell = false ∧ appL 256 s L r = (if appE 256 s L r = 0 then L.add L.age (countN r.length).toNat else L) ∧ (appE 256 s L r = 0 → (layW 256 s L.next (cutL L.age L.next r)).2 = 0 ∧ appS 256 s L r = (layW 256 s L.next (cutL L.age L.next r)).1) ∧ (appE 256 s L r ≠ 0 → appS 256 s L r = s)
  waits : (appS 256 s L r).waits.length ≤ s.waits.length + 19
  ticks : (appS 256 s L r).ticks ≤ s.ticks + 19
theorem app_up {s : DK} {L : LG} {r : List UInt8} (hn : (s.n : Int) = 256) (hf : s.fell = false) (hL : L.fallen = false) : AppUp s L r := by
  have hf' : ¬ (L.fallen = true ∨ s.fell = true) := by rw [hL, hf]; simp
  by_cases h8 : 8192 < r.length
  · have e1 : appE 256 s L r = 4 := by unfold appE; rw [if_pos h8]
    have e2 : appS 256 s L r = s := by unfold appS; rw [if_pos h8]
    have e3 : appL 256 s L r = L := by unfold appL; rw [e1]; rfl
    exact ⟨Or.inr (by rw [e1, if_pos h8]), fun h => (by rw [e1] at h; cases h), fun _ => ⟨by rw [e2]; exact hf, by rw [e3, e1]; rfl, fun h => (by rw [e1] at h; cases h), fun _ => e2⟩, by rw [e2]; omega, by rw [e2]; omega⟩
  · by_cases hfull : 30 - ((L.next - L.first : Nat) : Int) < countN r.length
    · have e1 : appE 256 s L r = 3 := by unfold appE; rw [if_neg h8, if_neg hf', lz256, if_pos hfull]
      have e2 : appS 256 s L r = s := by unfold appS; rw [if_neg h8, if_neg hf', lz256, if_pos hfull]
      have e3 : appL 256 s L r = L := by unfold appL; rw [e1]; rfl
      exact ⟨Or.inr (by rw [e1, if_neg h8, if_pos hfull]), fun h => (by rw [e1] at h; cases h), fun _ => ⟨by rw [e2]; exact hf, by rw [e3, e1]; rfl, fun h => (by rw [e1] at h; cases h), fun _ => e2⟩, by rw [e2]; omega, by rw [e2]; omega⟩
    · obtain ⟨h1, h2, h3⟩ := lay_up (cutL L.age L.next r) s L.next hn hf (cut_short _ _ _)
      have hlen := length_cutL L.age L.next r h8
      have h19 := count_le (n := (r.length : Int)) (by omega)
      have e1 : appE 256 s L r = (layW 256 s L.next (cutL L.age L.next r)).2 := by unfold appE; rw [if_neg h8, if_neg hf', lz256, if_neg hfull]
      have e2 : appS 256 s L r = (layW 256 s L.next (cutL L.age L.next r)).1 := by unfold appS; rw [if_neg h8, if_neg hf', lz256, if_neg hfull]
      rcases h1 with ⟨a, b⟩ | ⟨a, b⟩
      · have e3 : appE 256 s L r = 0 := e1.trans a
        have e4 : appL 256 s L r = L.add L.age (countN r.length).toNat := by unfold appL; rw [e3]; rfl
        exact ⟨Or.inr (by rw [e3, if_neg h8, if_neg hfull]), fun h => (by rw [e3] at h; cases h), fun _ => ⟨by rw [e2]; exact b, by rw [e4, e3]; rfl, fun _ => ⟨a, e2⟩, fun h => absurd e3 h⟩, by rw [e2]; omega, by rw [e2]; omega⟩
      · have e3 : appE 256 s L r = 40 := e1.trans a
        have e4 : appL 256 s L r = L.down := by unfold appL; rw [e3]; rfl
        exact ⟨Or.inl e3, fun _ => ⟨h8, hfull, by rw [e2]; exact b, e4, e2⟩, fun h => absurd e3 h, by rw [e2]; omega, by rw [e2]; omega⟩
end Go.Proofs.YtpkpjmebkikgdaaGreat

/- The statements of layer 7: a record is appended, on a device that is up and does not fall by it. -/
namespace Go.Proofs.YtpkpjmebkikgdaaGreat
open Go.RowKit

set_option maxRecDepth 20000 in
set_option maxHeartbeats 8000000 in
theorem bappend_up (F G K : Nat → Prop) (g : Nat) (lp dp : Value) (s : DK) (L : LG) (b : BK) (rv tv av xv : Value) (x : List UInt8) (w : World) (hB : Book F G K w g lp dp s L b rv tv av) (a1 : appE 256 s L x = if 8192 < x.length then 4 else if 30 - ((L.next - L.first : Nat) : Int) < countN x.length then 3 else 0) (a6 : appL 256 s L x = (if appE 256 s L x = 0 then L.add L.age (countN x.length).toNat else L)) (hx : Row w xv x) (hroom : x.length ≤ 140737488351232)
    (hout : ∀ k off n c, xv = .slice (some ⟨k, off, none⟩) n c → x ≠ [] → ¬ F k ∧ ¬ G k ∧ ¬ K k) (hw : s.waits.length + 64 ≤ 1048576) (ht : s.ticks + 64 ≤ 1048576) (hnx : L.next + 64 < 9223372036854775808) (hrl : b.recs.length ≤ 100000) :
    Calls Tryz.prog 23 #[.pointer (some ⟨g, 0, none⟩), xv] w fun e w' => e = .returned (.bool true) ∧ ∃ F' G' K' rv' tv' av', Book F' G' K' w' g lp dp (appS 256 s L x) (appL 256 s L x) (b.app (appE 256 s L x) x) rv' tv' av' ∧ Moves (all3 F G K) (all3 F' G' K') w w' := by
  have HOWN := hide (own_any xv x 71 71 rfl w hx hroom)
  have hFlt := hB.both.dev.lt
  have hGlt := hB.both.log.lt
  have hKlt := hB.at_.lt
  have hcn : countN (x.length : Int) ≤ 9223372036854775807 ∧ 1 ≤ countN (x.length : Int) := by
    refine ⟨?_, count_pos (by omega)⟩
    unfold countN
    repeat' split
    all_goals omega
  obtain ⟨E, hE⟩ : ∃ E, E = appE 256 s L x := ⟨_, rfl⟩
  obtain ⟨S, hS⟩ : ∃ S, S = appS 256 s L x := ⟨_, rfl⟩
  obtain ⟨M, hM⟩ : ∃ M, M = appL 256 s L x := ⟨_, rfl⟩
  rw [← hE, ← hS, ← hM]
  rw [← hE] at a1
  rw [← hE, ← hM] at a6
  have HB := hide hB
  have HFL := hide hFlt
  have HGL := hide hGlt
  have HKL := hide hKlt
  have HX := hide hx
  have HOUT := hide hout
  have HAP := hide (fun F' G' w' gi (hb : Both F' G' w' lp dp 256 s L) (ho : Owned w' gi x 71) => wappend_any F' G' lp dp 256 s L (.slice (some ⟨gi, 0, none⟩) x.length (x.length + 3)) x w' hb (ho.row (by unfold maxLen; omega)) (by omega) (by omega) (by omega))
  rw [← hE, ← hS, ← hM] at HAP
  obtain ⟨lg, hlg⟩ : ∃ lg, lp = .pointer (some lg) := by obtain ⟨g, sv, e, _⟩ := hB.both.log; exact ⟨_, e⟩
  subst hlg
  obtain ⟨xp, xc, xl, rfl, hxl⟩ := hx.shape
  have HXL := hide hxl
  have HA1 := hide a1
  have HA6 := hide a6
  have HRO := hide hroom
  have HCN := hide hcn
  have HRL := hide hrl
  have HNX := hide hnx
  clear hB hx hout hE hS hM hxl a1 a6 hFlt hGlt hKlt hw ht hnx hroom hcn hrl
  go_enter Tryz.func23, Tryz.ntmps23
  go_wp2_with fail
  refine Calls.mono (unhide HOWN) ?_
  rintro e w1 ⟨gi, rfl, hgi, o1, b1⟩
  have hB1 : BAt K w1 g dp (.pointer (some lg)) b rv tv av := (unhide HB).at_.below b1
  have hBo1 := (unhide HB).both.below b1
  have c10 := (nineteen_cells hB1.blk).1.2.2.1
  have HLF := hide (wleft_any G _ dp 256 L w1 hBo1.log)
  rw [lz256] at HLF
  have HB1 := hide hB1
  have HBo1 := hide hBo1
  have HO1 := hide o1
  have HGI := hide hgi
  have HBL1 := hide b1
  clear hB1 hBo1 o1 hgi b1 HOWN
  go_wp2_with fail
  refine Calls.mono (unhide HLF) ?_
  rintro e w2 ⟨rfl, b2⟩
  have hB2 := (unhide HB1).below b2
  have hBo2 := (unhide HBo1).below b2
  have ho2 := (unhide HO1).below b2
  have HA2 := hide (unhide HAP F G w2 gi hBo2 ho2)
  have d10 := (nineteen_cells hB2.blk).1.2.2.1
  have HB2 := hide hB2
  have HBo2 := hide hBo2
  have HO2 := hide ho2
  have HBL2 := hide ((unhide HBL1).trans (b2.mono (unhide HBL1).size))
  have HG2 : Hid (gi < w2.heap.size) := ho2.lt
  clear hB2 hBo2 ho2 b2 c10 HB1 HBo1 HO1 HLF HBL1
  generalize hLFT : (30 : Int) - ((L.next - L.first : Nat) : Int) = LFT at *
  go_wp2_with fail
  refine Calls.mono (unhide HA2) ?_
  rintro e w3 ⟨rfl, F3, G3, hBo3, hM3⟩
  have hgn : ¬ orF F G gi := fun h => by
    rcases h with h | h
    · have := unhide HFL gi h; have := unhide HGI; omega
    · have := unhide HGL gi h; have := unhide HGI; omega
  have ho3 : Owned w3 gi x 71 := (hM3.keep.block gi (unhide HG2) hgn).trans (unhide HO2)
  have hB3 : BAt K w3 g dp (.pointer (some lg)) b rv tv av := (unhide HB2).keep hM3.keep (fun k hk hK => by
    rcases hk with h | h
    · exact (unhide HB).apF k h hK
    · exact (unhide HB).apG k h hK)
  have hx3 : Row w3 (.slice xp xl xc) x := ((unhide HX).below (unhide HBL2)).keep hM3.keep (fun b' off c e hne hk => by
    obtain ⟨n1, n2, _⟩ := unhide HOUT b' off _ c e hne
    rcases hk with h | h
    · exact n1 h
    · exact n2 h)
  have HKP := hide (kept_any gi (.slice xp xl xc) x 71 71 rfl w3 ho3 hx3 (unhide HRO))
  have HB3 := hide hB3
  have HBo3 := hide hBo3
  have HO3 := hide ho3
  have HX3 := hide hx3
  have HM3 : Hid (Moves (orF F G) (orF F3 G3) w w3) := (Moves.of_below (unhide HBL2)).trans hM3
  have HS3 : Hid (∀ k, orF F3 G3 k → orF F G k ∨ w2.heap.size ≤ k) := hM3.sub
  clear hBo3 hM3 ho3 hB3 hx3 hgn d10 HA2 HB2 HBo2 HO2 HBL2 HAP
  go_wp2_with fail
  refine Calls.mono (unhide HKP) ?_
  rintro e w4 ⟨rfl, b4⟩
  have ho4 := (unhide HO3).below b4
  have HSP := hide (spoil_own gi x 71 w4 ho4 (unhide HRO))
  have HB4 := hide ((unhide HB3).below b4)
  have HBo4 := hide ((unhide HBo3).below b4)
  have HX4 := hide ((unhide HX3).below b4)
  have HM4 := hide ((unhide HM3).trans (Moves.of_below b4))
  clear b4 ho4 HB3 HBo3 HO3 HX3 HM3 HKP
  go_wp2_with fail
  refine Calls.mono (unhide HSP) ?_
  rintro e w5 ⟨rfl, k5⟩
  have hng : ¬ orF F3 G3 gi := fun h => by
    rcases unhide HS3 gi h with h1 | h1
    · rcases h1 with h1 | h1
      · have := unhide HFL gi h1; have := unhide HGI; omega
      · have := unhide HGL gi h1; have := unhide HGI; omega
    · have := unhide HG2; omega
  have hB5 : BAt K w5 g dp (.pointer (some lg)) b rv tv av := (unhide HB4).keep k5 (fun k hk hK => by have := unhide HKL k hK; have := unhide HGI; omega)
  have hBo5 : Both F3 G3 w5 (.pointer (some lg)) dp 256 S M := ⟨(unhide HBo4).dev.stays k5.size (fun k hk => k5.block k ((unhide HBo4).dev.lt k hk) (fun e => hng (Or.inl (e ▸ hk)))), (unhide HBo4).log.keep k5 (fun k hk hg => hng (Or.inr (hk ▸ hg))), (unhide HBo4).apart, (unhide HBo4).size⟩
  have hx5 : Row w5 (.slice xp xl xc) x := (unhide HX4).keep k5 (fun b' off c e hne hk => by
    have h1 := row_block_lt (unhide HX) e hne
    have := unhide HGI
    omega)
  have hM5 : Moves (orF F G) (orF F3 G3) w w5 := ⟨(unhide HM4).keep.trans k5 (fun k hk => Or.inr (by rw [hk]; exact unhide HGI)), (unhide HM4).sub⟩
  have HB5 := hide hB5
  have HBo5 := hide hBo5
  have HX5 := hide hx5
  have HM5 := hide hM5
  have HCT := hide (rcount_any (x.length : Int) w5 (by omega) (by have := unhide HRO; omega))
  rw [unhide HXL] at HCT
  clear hB5 hBo5 hx5 hM5 hng k5 HB4 HBo4 HX4 HM4 HSP HS3 HG2
  go_wp2_with fail
  refine Calls.mono (unhide HCT) ?_
  rintro e w6 ⟨rfl, rfl⟩
  have hA1 := unhide HA1
  have hA6 := unhide HA6
  have hCN := unhide HCN
  rw [unhide HXL] at hA1 hA6 hCN
  have HAPP : Hid (b.app E x = if E = 0 then { b with recs := b.recs ++ [x], turns := b.turns ++ [b.next], ages := b.ages ++ [b.age], next := b.next + (countN (xl : Int)).toNat } else b) := by
    unfold Hid BK.app
    rw [unhide HXL]
  generalize hNN : countN (xl : Int) = N at *
  obtain ⟨n1, n2⟩ := hCN
  have HBK := hide (unhide HB)
  have hend : ∀ w7, Below w6.heap.size w6 w7 → E ≠ 0 → M = L → ∃ F' G' K' rv' tv' av', Book F' G' K' w7 g (.pointer (some lg)) dp S M (b.app E x) rv' tv' av' ∧ Moves (all3 F G K) (all3 F' G' K') w w7 := by
    intro w7 b7 hE0 hML
    refine ⟨F3, G3, K, rv, tv, av, ⟨(unhide HBo5).below b7, ?_, ?_, ?_, ?_, ?_, ?_, ?_, ?_, ?_⟩, ?_⟩
    · rw [unhide HAPP, if_neg hE0]; exact (unhide HB5).below b7
    · intro k hk hK
      rcases (unhide HM5).sub k (Or.inl hk) with h | h
      · rcases h with h | h
        · exact (unhide HBK).apF k h hK
        · exact (unhide HBK).apG k h hK
      · have := unhide HKL k hK; omega
    · intro k hk hK
      rcases (unhide HM5).sub k (Or.inr hk) with h | h
      · rcases h with h | h
        · exact (unhide HBK).apF k h hK
        · exact (unhide HBK).apG k h hK
      · have := unhide HKL k hK; omega
    · rw [unhide HAPP, if_neg hE0, hML]; exact (unhide HBK).first
    · rw [unhide HAPP, if_neg hE0, hML]; exact (unhide HBK).next
    · rw [unhide HAPP, if_neg hE0, hML]; exact (unhide HBK).age
    · rw [unhide HAPP, if_neg hE0, hML]; exact (unhide HBK).starts
    · rw [unhide HAPP, if_neg hE0]; exact (unhide HBK).tl
    · rw [unhide HAPP, if_neg hE0]; exact (unhide HBK).al
    · have h6 := (unhide HM5).trans (Moves.of_below b7)
      refine ⟨h6.keep.weak (fun k hk => hk.elim Or.inl (fun h => Or.inr (Or.inl h))), fun k hk => ?_⟩
      rcases hk with hk | hk | hk
      · rcases h6.sub k (Or.inl hk) with h | h
        · exact Or.inl (h.elim Or.inl (fun h => Or.inr (Or.inl h)))
        · exact Or.inr h
      · rcases h6.sub k (Or.inr hk) with h | h
        · exact Or.inl (h.elim Or.inl (fun h => Or.inr (Or.inl h)))
        · exact Or.inr h
      · exact Or.inl (Or.inr (Or.inr hk))
  have HEND := hide hend
  clear hend HCT HA1 HA6
  by_cases h8 : 8192 < xl
  · have hEv : E = 4 := by rw [hA1, if_pos h8]
    have hMv : M = L := by rw [hA6, if_neg (by rw [hEv]; decide)]
    have HAG := hide (agree_any G3 K g dp _ b rv tv av M w6 (unhide HB5) (unhide HBo5).log (by rw [hMv]; exact (unhide HBK).first) (by rw [hMv]; exact (unhide HBK).next) (by rw [hMv]; exact (unhide HBK).least))
    have HEN2 := hide (fun w7 b7 => unhide HEND w7 b7 (by rw [hEv]; decide) hMv)
    have h8' : (8192 : Int) < xl := by omega
    have HEV := hide hEv
    clear hA1 hA6 hMv h8 HEND
    subst hEv
    go_wp2_with fail
    refine Calls.mono (unhide HAG) ?_
    rintro e w7 ⟨rfl, b7⟩
    have HE7 := hide (unhide HEN2 w7 b7)
    clear b7 HAG HEN2
    go_wp2_with fail
    go_ret
    exact ⟨rfl, unhide HE7⟩
  · have h8' : ¬ (8192 : Int) < xl := by omega
    rw [if_neg h8] at hA1
    by_cases hfull : LFT < N
    · have hEv : E = 3 := by rw [hA1, if_pos hfull]
      have hMv : M = L := by rw [hA6, if_neg (by rw [hEv]; decide)]
      have HAG := hide (agree_any G3 K g dp _ b rv tv av M w6 (unhide HB5) (unhide HBo5).log (by rw [hMv]; exact (unhide HBK).first) (by rw [hMv]; exact (unhide HBK).next) (by rw [hMv]; exact (unhide HBK).least))
      have HEN2 := hide (fun w7 b7 => unhide HEND w7 b7 (by rw [hEv]; decide) hMv)
      clear hA1 hA6 hMv h8 HEND
      subst hEv
      go_wp2_with fail
      refine Calls.mono (unhide HAG) ?_
      rintro e w7 ⟨rfl, b7⟩
      have HE7 := hide (unhide HEN2 w7 b7)
      clear b7 HAG HEN2
      go_wp2_with fail
      go_ret
      exact ⟨rfl, unhide HE7⟩
    · have hEv : E = 0 := by rw [hA1, if_neg hfull]
      have hMv : M = L.add L.age N.toNat := by rw [hA6, if_pos hEv]
      have HAP0 : Hid (b.app E x = { b with recs := b.recs ++ [x], turns := b.turns ++ [b.next], ages := b.ages ++ [b.age], next := b.next + N.toNat }) := by unfold Hid; rw [unhide HAPP, if_pos hEv]
      have HMV := hide hMv
      have HNB : Hid (N ≤ 19) := by unfold Hid; rw [← hNN]; exact count_le (by omega)
      obtain ⟨i0, hi, hz0, hz1, hz2⟩ := info_parts Tryz.infoRow
      obtain ⟨i1, hi1, hy0, hy1, hy2⟩ := info_parts Tryz.info36
      obtain ⟨vs, hvl, hvr, _⟩ := (unhide HB5).recs
      obtain ⟨rq, rc, hrv, _⟩ := hvr.shape
      subst hrv
      obtain ⟨uq, uc, htv, _⟩ := (unhide HB5).turns.shape
      subst htv
      obtain ⟨aq, ac, hav, _⟩ := (unhide HB5).ages.shape
      subst hav
      have hgl : g < w6.heap.size := (unhide HB5).lt g (unhide HB5).fg
      obtain ⟨⟨_, _, _, c11⟩, ⟨c12, c13, c14⟩, ⟨_, c16, _⟩, fz⟩ := nineteen_cells (unhide HB5).blk
      have hdw : Below w6.heap.size w6 w6.drew := (Below.refl _ _).drew
      have HCB := hide (copyBytes_any (.slice xp xl xc) x w6.drew ((unhide HX5).below hdw) (unhide HRO))
      have HVL := hide hvl
      have HVR := hide hvr
      have HVN : Hid (vs.length ≤ 100000) := by have := unhide HRL; unfold Hid; omega
      have fz12 := fz 12
      clear hA1 hA6 hMv h8 HEND HAPP hvl hvr fz hNN hdw
      subst hEv
      go_wp2_with fail
      apply one_way
      case main =>
       intro key
       go_region_law (first
        | (refine step_call1 rfl 52 _ 27 rfl (.slice xp xl xc) (by simp [Act.eval, Act.put]) ent_copy (unhide HCB) ?_; rintro t7 w7 ⟨ht7, b7⟩; obtain ⟨tq, tc, tn, e7, e7'⟩ := (row_of_owns ht7).shape; subst e7; clear e7'; have B7 : Below w6.heap.size w6 w7 := ((Below.refl _ _).drew).trans b7; have d12 := (B7.cell (World.block_lt_of_cell? _ _ c12)).trans c12; have hgl7 : g < w7.heap.size := (by have := B7.size; omega); have d12a : (w7.alloc (.cells #[.slice tq tn tc] 27)).cell? ⟨g, 12, none⟩ = some (.slice rq vs.length rc) := (((Below.refl _ w7).alloc (Nat.le_refl _) _).cell hgl7).trans d12; have hn7 : ¬ w7.heap.size = g := (by have := B7.size; omega); have hn7' : ¬ g = w7.heap.size := (by have := B7.size; omega); have HT7 := hide ht7; have HB7 := hide B7; clear ht7 b7 B7)
        | (refine step_append_tail rfl _ _ 37 rfl 27 i0 (.slice none 0 0) 24 Tryz.underlying37 hi hz0 hz1 hz2 rfl (.slice rq vs.length rc) vs (by simp [Act.eval]) ((unhide HVR).stays (fun k hk => (((unhide HB7).alloc (unhide HB7).size _).block k ((unhide HVR).lt k hk)))) ⟨w7.heap.size, 0, none⟩ 1 (.slice tq tn tc) (by simp [Act.eval]) (by simp [Addr.add]) rfl (by have := unhide HVN; unfold maxLen; omega) (by have := unhide HVN; omega) ?_; intro rv' w8 hr8 hk8 hv8 hs8; obtain ⟨q8, n8, c8, e8⟩ := hs8; subst e8; have hJ := (unhide HB5).addRec (unhide HVL) (unhide HVR) (unhide HB7) (unhide HT7) ((Below.refl _ w7).alloc (Nat.le_refl _) _) hk8 hr8 hv8; have hx8 := (hk8.block g (by simp; have := (unhide HB7).size; omega) (unhide HB5).rg).trans (((unhide HB7).alloc (unhide HB7).size _).block g hgl |>.trans (unhide HB5).blk); have x12 := (nineteen_cells hx8).2.1.1; have xf12 := (nineteen_cells hx8).2.2.2 12; have HJ := hide hJ; clear hr8 hk8 hv8 hx8 hJ))
       all_goals
        obtain ⟨hb8, hm8⟩ := unhide HJ
        clear d12 d12a hn7 hn7' hgl7 HB7 x12 xf12 HT7 HJ
        generalize w8.setCell ⟨g, 12, none⟩ (.slice q8 n8 c8) = W8 at *
        generalize newK K w6 W8 = K8 at *
        revert hb8 hm8
        generalize w7.heap.size = p7
        clear w8
        revert W8 K8 q8 n8 c8 tq tn tc p7
        exact unhide key
      case pf =>
        intro tq tc tn q8 n8 c8 W8 K8 p7 hb8 hm8
        have HB8 := hide hb8
        have HM8 := hide hm8
        have hgl8 : g < W8.heap.size := hb8.lt g hb8.fg
        have d13 := (nineteen_cells hb8.blk).2.1.2.1
        have d16 := (nineteen_cells hb8.blk).2.2.1.2.1
        have g13 := (nineteen_cells hb8.blk).2.2.2 13
        have HTR := hide hb8.turns
        have HTN : Hid ((b.turns.map U64).length ≤ 100000) := by have h1 := unhide HRL; have h2 := (unhide HB).tl; unfold Hid; rw [List.length_map]; omega
        have hne8 : ¬ W8.heap.size = g := by omega
        have e13 : (W8.drew.alloc (.cells #[.int .u64 (b.next : Int)] 36)).cell? ⟨g, 13, none⟩ = some (.slice uq (b.turns.map U64).length uc) := (((Below.refl W8.heap.size W8).drew.alloc (Nat.le_refl _) _).cell hgl8).trans d13
        clear hb8 hm8 c11 c12 c13 c14 c16 fz12 HVL HVR HVN HCB
        go_wp2_with fail
        apply one_way
        case main =>
         intro key
         go_region_law (first
          | (refine step_append_tail rfl _ _ 38 rfl 36 i1 (.int .u64 0) 8 Tryz.underlying38 hi1 hy0 hy1 hy2 rfl (.slice uq (b.turns.map U64).length uc) (b.turns.map U64) (by simp [Act.eval]) ((unhide HTR).stays (fun k hk => (((Below.refl W8.heap.size W8).drew.alloc (Nat.le_refl _) _).block k ((unhide HTR).lt k hk)))) ⟨W8.heap.size, 0, none⟩ 1 (.int .u64 (b.next : Int)) (by simp [Act.eval]) (by simp [Addr.add]) rfl (by have := unhide HTN; unfold maxLen; omega) (by have := unhide HTN; omega) ?_; intro tv' w9 hr9 hk9 hv9 hs9; obtain ⟨q9, n9, c9, e9⟩ := hs9; subst e9; have hJ := (unhide HB8).addTurn (u := b.next) ((Below.refl W8.heap.size W8).drew.alloc (Nat.le_refl _) _) hk9 hr9 hv9; have hx9 := (hk9.block g (by simp; omega) (unhide HB8).tg).trans ((((Below.refl W8.heap.size W8).drew.alloc (Nat.le_refl _) _).block g hgl8).trans (unhide HB8).blk); have x13 := (nineteen_cells hx9).2.1.2.1; have xf13 := (nineteen_cells hx9).2.2.2 13; have HJ := hide hJ; clear hr9 hk9 hv9 hx9 hJ))
         all_goals
          obtain ⟨hb9, hm9⟩ := unhide HJ
          clear x13 xf13 HJ
          generalize w9.setCell ⟨g, 13, none⟩ (.slice q9 n9 c9) = W9 at *
          generalize newK K8 W8 W9 = K9 at *
          clear w9
          revert hb9 hm9
          revert W9 K9 q9 n9 c9
          exact unhide key
        case pf =>
         intro q9 n9 c9 W9 K9 hb9 hm9
         have HB9 := hide hb9
         have HM9 := hide hm9
         have hgl9 : g < W9.heap.size := hb9.lt g hb9.fg
         have d14 := (nineteen_cells hb9.blk).2.1.2.2
         have d11 := (nineteen_cells hb9.blk).1.2.2.2
         have g14 := (nineteen_cells hb9.blk).2.2.2 14
         have HAR := hide hb9.ages
         have HAN : Hid ((b.ages.map U64).length ≤ 100000) := by have h1 := unhide HRL; have h2 := (unhide HB).al; unfold Hid; rw [List.length_map]; omega
         have hne9 : ¬ W9.heap.size = g := by omega
         have e14 : (W9.drew.alloc (.cells #[.int .u64 (b.age : Int)] 36)).cell? ⟨g, 14, none⟩ = some (.slice aq (b.ages.map U64).length ac) := (((Below.refl W9.heap.size W9).drew.alloc (Nat.le_refl _) _).cell hgl9).trans d14
         clear hb9 hm9 d13 d16 g13 HTR HTN hne8 e13
         go_wp2_with fail
         apply one_way
         case main =>
          intro key
          go_region_law (first
            | (refine step_append_tail rfl _ _ 38 rfl 36 i1 (.int .u64 0) 8 Tryz.underlying38 hi1 hy0 hy1 hy2 rfl (.slice aq (b.ages.map U64).length ac) (b.ages.map U64) (by simp [Act.eval]) ((unhide HAR).stays (fun k hk => (((Below.refl W9.heap.size W9).drew.alloc (Nat.le_refl _) _).block k ((unhide HAR).lt k hk)))) ⟨W9.heap.size, 0, none⟩ 1 (.int .u64 (b.age : Int)) (by simp [Act.eval]) (by simp [Addr.add]) rfl (by have := unhide HAN; unfold maxLen; omega) (by have := unhide HAN; omega) ?_; intro av' w10 hr10 hk10 hv10 hs10; obtain ⟨q10, n10, c10, e10⟩ := hs10; subst e10; have hJ := (unhide HB9).addAge (u := b.age) ((Below.refl W9.heap.size W9).drew.alloc (Nat.le_refl _) _) hk10 hr10 hv10; have hx10 := (hk10.block g (by simp; omega) (unhide HB9).ag).trans ((((Below.refl W9.heap.size W9).drew.alloc (Nat.le_refl _) _).block g hgl9).trans (unhide HB9).blk); have x14 := (nineteen_cells hx10).2.1.2.2; have xf14 := (nineteen_cells hx10).2.2.2 14; have HJ := hide hJ; clear hr10 hk10 hv10 hx10 hJ))
          all_goals
            obtain ⟨hb10, hm10⟩ := unhide HJ
            clear x14 xf14 HJ
            generalize w10.setCell ⟨g, 14, none⟩ (.slice q10 n10 c10) = W10 at *
            generalize newK K9 W9 W10 = K10 at *
            clear w10
            revert hb10 hm10
            revert W10 K10 q10 n10 c10
            exact unhide key
         case pf =>
          intro q10 n10 c10 W10 K10 hb10 hm10
          have d16 := (nineteen_cells hb10.blk).2.2.1.2.1
          have g16 := (nineteen_cells hb10.blk).2.2.2 16
          have hM10 : Moves K K10 w6 W10 := (unhide HM8).trans ((unhide HM9).trans hm10)
          obtain ⟨hb11, hk11⟩ := hb10.setNext (b.next + N.toNat)
          have hM11 : Moves K K10 w6 (W10.setCell ⟨g, 16, none⟩ (.int .u64 ((b.next + N.toNat : Nat) : Int))) := ⟨hM10.keep.trans hk11 hM10.sub, hM10.sub⟩
          have hNn : (N.toNat : Int) = N := by omega
          rw [Int.natCast_add, hNn] at hb11 hM11
          have hBn : b.next + 64 < 9223372036854775808 := by rw [← (unhide HBK).next]; exact unhide HNX
          have hBI : (b.next : Int) + 64 < 9223372036854775808 := by omega
          have hN19 : N ≤ 19 := unhide HNB
          have hapF3 : ∀ k, F3 k → ¬ K k := fun k hk hK => by
            rcases (unhide HM5).sub k (Or.inl hk) with h | h
            · rcases h with h | h
              · exact (unhide HBK).apF k h hK
              · exact (unhide HBK).apG k h hK
            · have := unhide HKL k hK; omega
          have hapG3 : ∀ k, G3 k → ¬ K k := fun k hk hK => by
            rcases (unhide HM5).sub k (Or.inr hk) with h | h
            · rcases h with h | h
              · exact (unhide HBK).apF k h hK
              · exact (unhide HBK).apG k h hK
            · have := unhide HKL k hK; omega
          have hbo := unhide HBo5
          obtain ⟨W11, hW11⟩ : ∃ W11, W11 = W10.setCell ⟨g, 16, none⟩ (.int .u64 ((b.next : Int) + N)) := ⟨_, rfl⟩
          rw [← hW11] at hb11 hM11
          have hbo11 : Both F3 G3 W11 (.pointer (some lg)) dp 256 S M := ⟨hbo.dev.stays hM11.keep.size (fun k hk => hM11.keep.block k (hbo.dev.lt k hk) (hapF3 k hk)), hbo.log.keep hM11.keep (fun k hk hg => hapG3 k hg hk), hbo.apart, hbo.size⟩
          have hMV := unhide HMV
          have hbk := unhide HBK
          have hBook : Book F3 G3 K10 W11 g (.pointer (some lg)) dp S M (b.app 0 x) (.slice q8 n8 c8) (.slice q9 n9 c9) (.slice q10 n10 c10) := by
            rw [unhide HAP0]
            refine ⟨hbo11, hb11, fun k hk hK => ?_, fun k hk hK => ?_, ?_, ?_, ?_, ?_, ?_, ?_⟩
            · rcases hM11.sub k hK with h | h
              · exact hapF3 k hk h
              · have := hbo.dev.lt k hk; omega
            · rcases hM11.sub k hK with h | h
              · exact hapG3 k hk h
              · have := hbo.log.lt k hk; omega
            · rw [hMV]; exact hbk.first
            · rw [hMV]; show L.next + N.toNat = b.next + N.toNat; rw [hbk.next]
            · rw [hMV]; exact hbk.age
            · rw [hMV]
              show L.starts ++ [(L.next, L.age)] = (b.turns ++ [b.next]).zip (b.ages ++ [b.age])
              rw [List.zip_append (by rw [hbk.tl, hbk.al]), hbk.starts, hbk.next, hbk.age]
              rfl
            · show (b.turns ++ [b.next]).length = (b.recs ++ [x]).length
              simp [hbk.tl]
            · show (b.ages ++ [b.age]).length = (b.recs ++ [x]).length
              simp [hbk.al]
          have hMall : Moves (all3 F G K) (all3 F3 G3 K10) w W11 := by
            have h5 := unhide HM5
            refine ⟨(h5.keep.weak (G := all3 F G K) (fun k hk => hk.elim Or.inl (fun h => Or.inr (Or.inl h)))).trans hM11.keep (fun k hk => Or.inl (Or.inr (Or.inr hk))), fun k hk => ?_⟩
            rcases hk with hk | hk | hk
            · rcases h5.sub k (Or.inl hk) with h | h
              · exact Or.inl (h.elim Or.inl (fun h => Or.inr (Or.inl h)))
              · exact Or.inr h
            · rcases h5.sub k (Or.inr hk) with h | h
              · exact Or.inl (h.elim Or.inl (fun h => Or.inr (Or.inl h)))
              · exact Or.inr h
            · rcases hM11.sub k hk with h | h
              · exact Or.inl (Or.inr (Or.inr h))
              · exact Or.inr (Nat.le_trans h5.keep.size h)
          have HAG := hide (agree_any G3 K10 g dp _ (b.app 0 x) _ _ _ M W11 hBook.at_ hBook.both.log hBook.first hBook.next hBook.least)
          have HBOOK := hide hBook
          have HMALL := hide hMall
          have HW11 := hide hW11
          clear hb10 hm10 hM10 hb11 hk11 hM11 hBn hapF3 hapG3 hbo hW11 hbo11 hMV hbk hBook hMall d14 d11 g14 HAR HAN hne9 e14 hNn
          go_wp2_with fail
          rw [← unhide HW11]
          refine Calls.mono (unhide HAG) ?_
          rintro e w12 ⟨rfl, b12⟩
          have hB12 := unhide HBOOK
          have HE12 : Hid (Book F3 G3 K10 w12 g (.pointer (some lg)) dp S M (b.app 0 x) (.slice q8 n8 c8) (.slice q9 n9 c9) (.slice q10 n10 c10) ∧ Moves (all3 F G K) (all3 F3 G3 K10) w w12) :=
            ⟨⟨hB12.both.below b12, hB12.at_.below b12, hB12.apF, hB12.apG, hB12.first, hB12.next, hB12.age, hB12.starts, hB12.tl, hB12.al⟩, (unhide HMALL).trans (Moves.of_below b12)⟩
          clear b12 hB12 HAG d16 g16
          go_wp2_with fail
          go_ret
          exact ⟨rfl, F3, G3, K10, _, _, _, unhide HE12⟩
end Go.Proofs.YtpkpjmebkikgdaaGreat

/- The statements of layer 7: a record is appended, and the device falls by it. -/
namespace Go.Proofs.YtpkpjmebkikgdaaGreat
open Go.RowKit

/-- The device and the log go on, the book stands. -/
theorem held_on {F G F' G' K0 F0 G0 K : Nat → Prop} {w0 w w' : World} {g : Nat} {lp dp : Value} {s s' : DK} {L L' : LG} {b : BK} {rv tv av : Value} (h : Held F G K w g lp dp s L b rv tv av) (hM : Moves (all3 F0 G0 K0) (all3 F G K) w0 w) (hbo : Both F' G' w' lp dp 256 s' L') (hm : Moves (orF F G) (orF F' G') w w') :
    Held F' G' K w' g lp dp s' L' b rv tv av ∧ Moves (all3 F0 G0 K0) (all3 F' G' K) w0 w' := by
  have hF : ∀ k, orF F G k → ¬ K k := fun k hk => hk.elim (h.apF k) (h.apG k)
  have hF' : ∀ k, orF F' G' k → ¬ K k := fun k hk hK => by
    rcases hm.sub k hk with e | e
    · exact hF k e hK
    · have := h.at_.lt k hK; omega
  refine ⟨⟨hbo, h.at_.keep hm.keep (fun k hk => hF k hk), fun k hk => hF' k (Or.inl hk), fun k hk => hF' k (Or.inr hk)⟩, hM.trans ⟨hm.keep.weak (fun k hk => hk.elim Or.inl (fun h => Or.inr (Or.inl h))), fun k hk => ?_⟩⟩
  rcases hk with hk | hk | hk
  · rcases hm.sub k (Or.inl hk) with e | e
    · exact Or.inl (e.elim Or.inl (fun h => Or.inr (Or.inl h)))
    · exact Or.inr e
  · rcases hm.sub k (Or.inr hk) with e | e
    · exact Or.inl (e.elim Or.inl (fun h => Or.inr (Or.inl h)))
    · exact Or.inr e
  · exact Or.inl (Or.inr (Or.inr hk))

set_option maxRecDepth 20000 in
set_option maxHeartbeats 8000000 in
theorem bappend_falls (F G K : Nat → Prop) (g : Nat) (lp dp : Value) (s : DK) (L : LG) (b : BK) (rv tv av xv : Value) (x : List UInt8) (w : World) (hB : Book F G K w g lp dp s L b rv tv av) (hE40 : appE 256 s L x = 40) (a6 : appL 256 s L x = L.down) (h8 : ¬ 8192 < x.length) (hful : ¬ 30 - ((L.next - L.first : Nat) : Int) < countN x.length) (hfe : (appS 256 s L x).fell = true) (hw2 : (appS 256 s L x).waits.length + 32 ≤ 1048576) (ht2 : (appS 256 s L x).ticks + 32 ≤ 1048576) (hx : Row w xv x) (hroom : x.length ≤ 140737488351232)
    (hout : ∀ k off n c, xv = .slice (some ⟨k, off, none⟩) n c → x ≠ [] → ¬ F k ∧ ¬ G k ∧ ¬ K k) (hw : s.waits.length + 64 ≤ 1048576) (ht : s.ticks + 64 ≤ 1048576) (hnx : L.next + 64 < 9223372036854775808) (hrl : b.recs.length ≤ 100000) :
    Calls Tryz.prog 23 #[.pointer (some ⟨g, 0, none⟩), xv] w fun e w' => e = .returned (.bool true) ∧ ∃ F' G' K' rv' tv' av', Held F' G' K' w' g lp dp (appS 256 s L x) L.down { b with recs := b.recs ++ [x], turns := b.turns ++ [b.next], ages := b.ages ++ [b.age], next := b.next + (countN x.length).toNat, dead := true } rv' tv' av' ∧ Moves (all3 F G K) (all3 F' G' K') w w' := by
  have HOWN := hide (own_any xv x 71 71 rfl w hx hroom)
  have hFlt := hB.both.dev.lt
  have hGlt := hB.both.log.lt
  have hKlt := hB.at_.lt
  have hcn : countN (x.length : Int) ≤ 9223372036854775807 ∧ 1 ≤ countN (x.length : Int) := by
    refine ⟨?_, count_pos (by omega)⟩
    unfold countN
    repeat' split
    all_goals omega
  obtain ⟨E, hE⟩ : ∃ E, E = appE 256 s L x := ⟨_, rfl⟩
  obtain ⟨S, hS⟩ : ∃ S, S = appS 256 s L x := ⟨_, rfl⟩
  obtain ⟨M, hM⟩ : ∃ M, M = appL 256 s L x := ⟨_, rfl⟩
  rw [← hS]
  rw [← hE] at hE40
  rw [← hM] at a6
  rw [← hS] at hfe hw2 ht2
  have HB := hide hB
  have HFL := hide hFlt
  have HGL := hide hGlt
  have HKL := hide hKlt
  have HX := hide hx
  have HOUT := hide hout
  have HAP := hide (fun F' G' w' gi (hb : Both F' G' w' lp dp 256 s L) (ho : Owned w' gi x 71) => wappend_any F' G' lp dp 256 s L (.slice (some ⟨gi, 0, none⟩) x.length (x.length + 3)) x w' hb (ho.row (by unfold maxLen; omega)) (by omega) (by omega) (by omega))
  rw [← hE, ← hS, ← hM] at HAP
  obtain ⟨lg, hlg⟩ : ∃ lg, lp = .pointer (some lg) := by obtain ⟨g, sv, e, _⟩ := hB.both.log; exact ⟨_, e⟩
  subst hlg
  obtain ⟨xp, xc, xl, rfl, hxl⟩ := hx.shape
  have HXL := hide hxl
  have HA6 := hide a6
  have HFE := hide hfe
  have HW2 := hide hw2
  have HT2 := hide ht2
  have HH8 := hide h8
  have HFU := hide hful
  have HE40 := hide hE40
  have HRO := hide hroom
  have HCN := hide hcn
  have HRL := hide hrl
  have HNX := hide hnx
  clear hB hx hout hE hS hM hxl a6 hFlt hGlt hKlt hw ht hnx hroom hcn hrl hfe hw2 ht2 h8 hful hE40
  go_enter Tryz.func23, Tryz.ntmps23
  go_wp2_with fail
  refine Calls.mono (unhide HOWN) ?_
  rintro e w1 ⟨gi, rfl, hgi, o1, b1⟩
  have hB1 : BAt K w1 g dp (.pointer (some lg)) b rv tv av := (unhide HB).at_.below b1
  have hBo1 := (unhide HB).both.below b1
  have c10 := (nineteen_cells hB1.blk).1.2.2.1
  have HLF := hide (wleft_any G _ dp 256 L w1 hBo1.log)
  rw [lz256] at HLF
  have HB1 := hide hB1
  have HBo1 := hide hBo1
  have HO1 := hide o1
  have HGI := hide hgi
  have HBL1 := hide b1
  clear hB1 hBo1 o1 hgi b1 HOWN
  go_wp2_with fail
  refine Calls.mono (unhide HLF) ?_
  rintro e w2 ⟨rfl, b2⟩
  have hB2 := (unhide HB1).below b2
  have hBo2 := (unhide HBo1).below b2
  have ho2 := (unhide HO1).below b2
  have HA2 := hide (unhide HAP F G w2 gi hBo2 ho2)
  have d10 := (nineteen_cells hB2.blk).1.2.2.1
  have HB2 := hide hB2
  have HBo2 := hide hBo2
  have HO2 := hide ho2
  have HBL2 := hide ((unhide HBL1).trans (b2.mono (unhide HBL1).size))
  have HG2 : Hid (gi < w2.heap.size) := ho2.lt
  clear hB2 hBo2 ho2 b2 c10 HB1 HBo1 HO1 HLF HBL1
  generalize hLFT : (30 : Int) - ((L.next - L.first : Nat) : Int) = LFT at *
  go_wp2_with fail
  refine Calls.mono (unhide HA2) ?_
  rintro e w3 ⟨rfl, F3, G3, hBo3, hM3⟩
  have hgn : ¬ orF F G gi := fun h => by
    rcases h with h | h
    · have := unhide HFL gi h; have := unhide HGI; omega
    · have := unhide HGL gi h; have := unhide HGI; omega
  have ho3 : Owned w3 gi x 71 := (hM3.keep.block gi (unhide HG2) hgn).trans (unhide HO2)
  have hB3 : BAt K w3 g dp (.pointer (some lg)) b rv tv av := (unhide HB2).keep hM3.keep (fun k hk hK => by
    rcases hk with h | h
    · exact (unhide HB).apF k h hK
    · exact (unhide HB).apG k h hK)
  have hx3 : Row w3 (.slice xp xl xc) x := ((unhide HX).below (unhide HBL2)).keep hM3.keep (fun b' off c e hne hk => by
    obtain ⟨n1, n2, _⟩ := unhide HOUT b' off _ c e hne
    rcases hk with h | h
    · exact n1 h
    · exact n2 h)
  have HKP := hide (kept_any gi (.slice xp xl xc) x 71 71 rfl w3 ho3 hx3 (unhide HRO))
  have HB3 := hide hB3
  have HBo3 := hide hBo3
  have HO3 := hide ho3
  have HX3 := hide hx3
  have HM3 : Hid (Moves (orF F G) (orF F3 G3) w w3) := (Moves.of_below (unhide HBL2)).trans hM3
  have HS3 : Hid (∀ k, orF F3 G3 k → orF F G k ∨ w2.heap.size ≤ k) := hM3.sub
  clear hBo3 hM3 ho3 hB3 hx3 hgn d10 HA2 HB2 HBo2 HO2 HBL2 HAP
  go_wp2_with fail
  refine Calls.mono (unhide HKP) ?_
  rintro e w4 ⟨rfl, b4⟩
  have ho4 := (unhide HO3).below b4
  have HSP := hide (spoil_own gi x 71 w4 ho4 (unhide HRO))
  have HB4 := hide ((unhide HB3).below b4)
  have HBo4 := hide ((unhide HBo3).below b4)
  have HX4 := hide ((unhide HX3).below b4)
  have HM4 := hide ((unhide HM3).trans (Moves.of_below b4))
  clear b4 ho4 HB3 HBo3 HO3 HX3 HM3 HKP
  go_wp2_with fail
  refine Calls.mono (unhide HSP) ?_
  rintro e w5 ⟨rfl, k5⟩
  have hng : ¬ orF F3 G3 gi := fun h => by
    rcases unhide HS3 gi h with h1 | h1
    · rcases h1 with h1 | h1
      · have := unhide HFL gi h1; have := unhide HGI; omega
      · have := unhide HGL gi h1; have := unhide HGI; omega
    · have := unhide HG2; omega
  have hB5 : BAt K w5 g dp (.pointer (some lg)) b rv tv av := (unhide HB4).keep k5 (fun k hk hK => by have := unhide HKL k hK; have := unhide HGI; omega)
  have hBo5 : Both F3 G3 w5 (.pointer (some lg)) dp 256 S M := ⟨(unhide HBo4).dev.stays k5.size (fun k hk => k5.block k ((unhide HBo4).dev.lt k hk) (fun e => hng (Or.inl (e ▸ hk)))), (unhide HBo4).log.keep k5 (fun k hk hg => hng (Or.inr (hk ▸ hg))), (unhide HBo4).apart, (unhide HBo4).size⟩
  have hx5 : Row w5 (.slice xp xl xc) x := (unhide HX4).keep k5 (fun b' off c e hne hk => by
    have h1 := row_block_lt (unhide HX) e hne
    have := unhide HGI
    omega)
  have hM5 : Moves (orF F G) (orF F3 G3) w w5 := ⟨(unhide HM4).keep.trans k5 (fun k hk => Or.inr (by rw [hk]; exact unhide HGI)), (unhide HM4).sub⟩
  have HB5 := hide hB5
  have HBo5 := hide hBo5
  have HX5 := hide hx5
  have HM5 := hide hM5
  have HCT := hide (rcount_any (x.length : Int) w5 (by omega) (by have := unhide HRO; omega))
  rw [unhide HXL] at HCT
  clear hB5 hBo5 hx5 hM5 hng k5 HB4 HBo4 HX4 HM4 HSP HS3 HG2
  go_wp2_with fail
  refine Calls.mono (unhide HCT) ?_
  rintro e w6 ⟨rfl, rfl⟩
  have hCN := unhide HCN
  have hFU := unhide HFU
  have hH8 := unhide HH8
  rw [unhide HXL] at hCN hFU hH8
  have h8' : ¬ (8192 : Int) < xl := by omega
  have HPOST : Hid (∀ (b' : BK), { b with recs := b.recs ++ [x], turns := b.turns ++ [b.next], ages := b.ages ++ [b.age], next := b.next + (countN (xl : Int)).toNat, dead := true } = b' → { b with recs := b.recs ++ [x], turns := b.turns ++ [b.next], ages := b.ages ++ [b.age], next := b.next + (countN (x.length : Int)).toNat, dead := true } = b') := fun b' h => by rw [unhide HXL]; exact h
  have HNB : Hid (countN (xl : Int) ≤ 19) := count_le (by omega)
  generalize hNN : countN (xl : Int) = N at *
  obtain ⟨n1, n2⟩ := hCN

  have HBK := hide (unhide HB)
  have hapF3 : ∀ k, F3 k → ¬ K k := fun k hk hK => by
    rcases (unhide HM5).sub k (Or.inl hk) with h | h
    · rcases h with h | h
      · exact (unhide HBK).apF k h hK
      · exact (unhide HBK).apG k h hK
    · have := unhide HKL k hK; omega
  have hapG3 : ∀ k, G3 k → ¬ K k := fun k hk hK => by
    rcases (unhide HM5).sub k (Or.inr hk) with h | h
    · rcases h with h | h
      · exact (unhide HBK).apF k h hK
      · exact (unhide HBK).apG k h hK
    · have := unhide HKL k hK; omega
  obtain ⟨b1, hb1⟩ : ∃ b1 : BK, b1 = { b with dead := true } := ⟨_, rfl⟩
  have HE1 : Hid (b1.recs = b.recs ∧ b1.turns = b.turns ∧ b1.ages = b.ages ∧ b1.next = b.next ∧ b1.age = b.age) := by rw [hb1]; exact ⟨rfl, rfl, rfl, rfl, rfl⟩
  have HB1W : Hid (∀ c : Nat, ({ b1 with recs := b1.recs ++ [x], turns := b1.turns ++ [b1.next], ages := b1.ages ++ [b1.age], next := c } : BK) = { b with recs := b.recs ++ [x], turns := b.turns ++ [b.next], ages := b.ages ++ [b.age], next := c, dead := true }) := fun c => by rw [hb1]
  obtain ⟨W6, hW6⟩ : ∃ W6, W6 = w6.setCell ⟨g, 18, none⟩ (.bool true) := ⟨_, rfl⟩
  have hkp6 : Keep (fun k => k = g) w6 W6 := by rw [hW6]; exact sets_keep g [(18, .bool true)] w6
  have hK6 : Keep K w6 W6 := hkp6.weak (fun k hk => by rw [hk]; exact (unhide HB5).fg)
  have hat6 : BAt K W6 g dp (.pointer (some lg)) b1 rv tv av := by
    rw [hb1]
    refine (unhide HB5).anew ?_ hkp6.size (fun k hk hlt => hkp6.block k hlt hk) (unhide HB5).recs (unhide HB5).turns (unhide HB5).ages (unhide HB5).two
    have h := sets_block g _ [(18, Value.bool true)] w6 _ (unhide HB5).blk
    rw [hW6]
    exact Eq.trans h rfl
  have hbo6 : Both F3 G3 W6 (.pointer (some lg)) dp 256 S M := ⟨(unhide HBo5).dev.stays hK6.size (fun k hk => hK6.block k ((unhide HBo5).dev.lt k hk) (hapF3 k hk)), (unhide HBo5).log.keep hK6 (fun k hk hg => hapG3 k hg hk), (unhide HBo5).apart, (unhide HBo5).size⟩
  have hx6 : Row W6 (.slice xp xl xc) x := (unhide HX5).keep hK6 (fun b' off c e hne hk => (unhide HOUT b' off _ c e hne).2.2 hk)
  have HDN := hide (odown_any F3 dp S W6 hbo6.dev)
  rw [unhide HFE] at HDN
  have c18 := (nineteen_cells (unhide HB5).blk).2.2.1.2.2.2
  have fz18 := (nineteen_cells (unhide HB5).blk).2.2.2 18
  have d0 := (nineteen_cells (unhide HB5).blk).1.1
  have HAT6 := hide hat6
  have HBO6 := hide hbo6
  have HXX6 := hide hx6
  have HKK6 := hide hK6
  have HW6 := hide hW6
  have HAPF := hide hapF3
  have HAPG := hide hapG3
  have hE40 := unhide HE40
  subst hE40
  clear hkp6 hK6 hat6 hbo6 hx6 hb1 hW6 hapF3 hapG3 hH8 hNN HCT
  go_wp2_with fail
  rw [← unhide HW6]
  refine Calls.mono (unhide HDN) ?_
  rintro e wq ⟨rfl, bq⟩
  have HB6 := hide ((unhide HAT6).below bq)
  have HBo6 := hide ((unhide HBO6).below bq)
  have HX6 := hide ((unhide HXX6).below bq)
  have HKQ : Hid (Keep K w6 wq) := (unhide HKK6).trans (Keep.of_below (F := fun _ => False) bq) (fun _ h => h.elim)
  have HRL1 : Hid (b1.recs.length ≤ 100000) := by unfold Hid; rw [(unhide HE1).1]; exact unhide HRL
  have HTL1 : Hid (b1.turns.length = b1.recs.length) := by unfold Hid; rw [(unhide HE1).1, (unhide HE1).2.1]; exact (unhide HBK).tl
  have HAL1 : Hid (b1.ages.length = b1.recs.length) := by unfold Hid; rw [(unhide HE1).1, (unhide HE1).2.2.1]; exact (unhide HBK).al
  have HNX1 : Hid (b1.next + 64 < 9223372036854775808) := by unfold Hid; rw [(unhide HE1).2.2.2.1, ← (unhide HBK).next]; exact unhide HNX
  clear bq c18 fz18 d0 HDN HAT6 HBO6 HXX6 HKK6 HW6 HB5 HX5
  obtain ⟨i0, hi, hz0, hz1, hz2⟩ := info_parts Tryz.infoRow
  obtain ⟨i1, hi1, hy0, hy1, hy2⟩ := info_parts Tryz.info36
  obtain ⟨vs, hvl, hvr, _⟩ := (unhide HB6).recs
  obtain ⟨rq, rc, hrv, _⟩ := hvr.shape
  subst hrv
  obtain ⟨uq, uc, htv, _⟩ := (unhide HB6).turns.shape
  subst htv
  obtain ⟨aq, ac, hav, _⟩ := (unhide HB6).ages.shape
  subst hav
  have hgl : g < wq.heap.size := (unhide HB6).lt g (unhide HB6).fg
  obtain ⟨⟨_, _, _, c11⟩, ⟨c12, c13, c14⟩, ⟨_, c16, _⟩, fz⟩ := nineteen_cells (unhide HB6).blk
  have hdw : Below wq.heap.size wq wq.drew := (Below.refl _ _).drew
  have HCB := hide (copyBytes_any (.slice xp xl xc) x wq.drew ((unhide HX6).below hdw) (unhide HRO))
  have HVL := hide hvl
  have HVR := hide hvr
  have HVN : Hid (vs.length ≤ 100000) := by have := unhide HRL1; unfold Hid; omega
  have fz12 := fz 12
  clear hvl hvr fz hdw
  go_wp2_with fail
  apply one_way
  case main =>
   intro key
   go_region_law (first
    | (refine step_call1 rfl 52 _ 27 rfl (.slice xp xl xc) (by simp [Act.eval, Act.put]) ent_copy (unhide HCB) ?_; rintro t7 w7 ⟨ht7, b7⟩; obtain ⟨tq, tc, tn, e7, e7'⟩ := (row_of_owns ht7).shape; subst e7; clear e7'; have B7 : Below wq.heap.size wq w7 := ((Below.refl _ _).drew).trans b7; have d12 := (B7.cell (World.block_lt_of_cell? _ _ c12)).trans c12; have hgl7 : g < w7.heap.size := (by have := B7.size; omega); have d12a : (w7.alloc (.cells #[.slice tq tn tc] 27)).cell? ⟨g, 12, none⟩ = some (.slice rq vs.length rc) := (((Below.refl _ w7).alloc (Nat.le_refl _) _).cell hgl7).trans d12; have hn7 : ¬ w7.heap.size = g := (by have := B7.size; omega); have hn7' : ¬ g = w7.heap.size := (by have := B7.size; omega); have HT7 := hide ht7; have HB7 := hide B7; clear ht7 b7 B7)
    | (refine step_append_tail rfl _ _ 37 rfl 27 i0 (.slice none 0 0) 24 Tryz.underlying37 hi hz0 hz1 hz2 rfl (.slice rq vs.length rc) vs (by simp [Act.eval]) ((unhide HVR).stays (fun k hk => (((unhide HB7).alloc (unhide HB7).size _).block k ((unhide HVR).lt k hk)))) ⟨w7.heap.size, 0, none⟩ 1 (.slice tq tn tc) (by simp [Act.eval]) (by simp [Addr.add]) rfl (by have := unhide HVN; unfold maxLen; omega) (by have := unhide HVN; omega) ?_; intro rv' w8 hr8 hk8 hv8 hs8; obtain ⟨q8, n8, c8, e8⟩ := hs8; subst e8; have hJ := (unhide HB6).addRec (unhide HVL) (unhide HVR) (unhide HB7) (unhide HT7) ((Below.refl _ w7).alloc (Nat.le_refl _) _) hk8 hr8 hv8; have hx8 := (hk8.block g (by simp; have := (unhide HB7).size; omega) (unhide HB6).rg).trans (((unhide HB7).alloc (unhide HB7).size _).block g hgl |>.trans (unhide HB6).blk); have x12 := (nineteen_cells hx8).2.1.1; have xf12 := (nineteen_cells hx8).2.2.2 12; have HJ := hide hJ; clear hr8 hk8 hv8 hx8 hJ))
   all_goals
    obtain ⟨hb8, hm8⟩ := unhide HJ
    clear d12 d12a hn7 hn7' hgl7 HB7 x12 xf12 HT7 HJ
    generalize w8.setCell ⟨g, 12, none⟩ (.slice q8 n8 c8) = W8 at *
    generalize newK K wq W8 = K8 at *
    revert hb8 hm8
    generalize w7.heap.size = p7
    clear w8
    revert W8 K8 q8 n8 c8 tq tn tc p7
    exact unhide key
  case pf =>
    intro tq tc tn q8 n8 c8 W8 K8 p7 hb8 hm8
    have HB8 := hide hb8
    have HM8 := hide hm8
    have hgl8 : g < W8.heap.size := hb8.lt g hb8.fg
    have d13 := (nineteen_cells hb8.blk).2.1.2.1
    have d16 := (nineteen_cells hb8.blk).2.2.1.2.1
    have g13 := (nineteen_cells hb8.blk).2.2.2 13
    have HTR := hide hb8.turns
    have HTN : Hid ((b1.turns.map U64).length ≤ 100000) := by have h1 := unhide HRL1; have h2 := unhide HTL1; unfold Hid; rw [List.length_map]; omega
    have hne8 : ¬ W8.heap.size = g := by omega
    have e13 : (W8.drew.alloc (.cells #[.int .u64 (b1.next : Int)] 36)).cell? ⟨g, 13, none⟩ = some (.slice uq (b1.turns.map U64).length uc) := (((Below.refl W8.heap.size W8).drew.alloc (Nat.le_refl _) _).cell hgl8).trans d13
    clear hb8 hm8 c11 c12 c13 c14 c16 fz12 HVL HVR HVN HCB
    go_wp2_with fail
    apply one_way
    case main =>
     intro key
     go_region_law (first
      | (refine step_append_tail rfl _ _ 38 rfl 36 i1 (.int .u64 0) 8 Tryz.underlying38 hi1 hy0 hy1 hy2 rfl (.slice uq (b1.turns.map U64).length uc) (b1.turns.map U64) (by simp [Act.eval]) ((unhide HTR).stays (fun k hk => (((Below.refl W8.heap.size W8).drew.alloc (Nat.le_refl _) _).block k ((unhide HTR).lt k hk)))) ⟨W8.heap.size, 0, none⟩ 1 (.int .u64 (b1.next : Int)) (by simp [Act.eval]) (by simp [Addr.add]) rfl (by have := unhide HTN; unfold maxLen; omega) (by have := unhide HTN; omega) ?_; intro tv' w9 hr9 hk9 hv9 hs9; obtain ⟨q9, n9, c9, e9⟩ := hs9; subst e9; have hJ := (unhide HB8).addTurn (u := b1.next) ((Below.refl W8.heap.size W8).drew.alloc (Nat.le_refl _) _) hk9 hr9 hv9; have hx9 := (hk9.block g (by simp; omega) (unhide HB8).tg).trans ((((Below.refl W8.heap.size W8).drew.alloc (Nat.le_refl _) _).block g hgl8).trans (unhide HB8).blk); have x13 := (nineteen_cells hx9).2.1.2.1; have xf13 := (nineteen_cells hx9).2.2.2 13; have HJ := hide hJ; clear hr9 hk9 hv9 hx9 hJ))
     all_goals
      obtain ⟨hb9, hm9⟩ := unhide HJ
      clear x13 xf13 HJ
      generalize w9.setCell ⟨g, 13, none⟩ (.slice q9 n9 c9) = W9 at *
      generalize newK K8 W8 W9 = K9 at *
      clear w9
      revert hb9 hm9
      revert W9 K9 q9 n9 c9
      exact unhide key
    case pf =>
     intro q9 n9 c9 W9 K9 hb9 hm9
     have HB9 := hide hb9
     have HM9 := hide hm9
     have hgl9 : g < W9.heap.size := hb9.lt g hb9.fg
     have d14 := (nineteen_cells hb9.blk).2.1.2.2
     have d11 := (nineteen_cells hb9.blk).1.2.2.2
     have g14 := (nineteen_cells hb9.blk).2.2.2 14
     have HAR := hide hb9.ages
     have HAN : Hid ((b1.ages.map U64).length ≤ 100000) := by have h1 := unhide HRL1; have h2 := unhide HAL1; unfold Hid; rw [List.length_map]; omega
     have hne9 : ¬ W9.heap.size = g := by omega
     have e14 : (W9.drew.alloc (.cells #[.int .u64 (b1.age : Int)] 36)).cell? ⟨g, 14, none⟩ = some (.slice aq (b1.ages.map U64).length ac) := (((Below.refl W9.heap.size W9).drew.alloc (Nat.le_refl _) _).cell hgl9).trans d14
     clear hb9 hm9 d13 d16 g13 HTR HTN hne8 e13
     go_wp2_with fail
     apply one_way
     case main =>
      intro key
      go_region_law (first
        | (refine step_append_tail rfl _ _ 38 rfl 36 i1 (.int .u64 0) 8 Tryz.underlying38 hi1 hy0 hy1 hy2 rfl (.slice aq (b1.ages.map U64).length ac) (b1.ages.map U64) (by simp [Act.eval]) ((unhide HAR).stays (fun k hk => (((Below.refl W9.heap.size W9).drew.alloc (Nat.le_refl _) _).block k ((unhide HAR).lt k hk)))) ⟨W9.heap.size, 0, none⟩ 1 (.int .u64 (b1.age : Int)) (by simp [Act.eval]) (by simp [Addr.add]) rfl (by have := unhide HAN; unfold maxLen; omega) (by have := unhide HAN; omega) ?_; intro av' w10 hr10 hk10 hv10 hs10; obtain ⟨q10, n10, c10, e10⟩ := hs10; subst e10; have hJ := (unhide HB9).addAge (u := b1.age) ((Below.refl W9.heap.size W9).drew.alloc (Nat.le_refl _) _) hk10 hr10 hv10; have hx10 := (hk10.block g (by simp; omega) (unhide HB9).ag).trans ((((Below.refl W9.heap.size W9).drew.alloc (Nat.le_refl _) _).block g hgl9).trans (unhide HB9).blk); have x14 := (nineteen_cells hx10).2.1.2.2; have xf14 := (nineteen_cells hx10).2.2.2 14; have HJ := hide hJ; clear hr10 hk10 hv10 hx10 hJ))
      all_goals
        obtain ⟨hb10, hm10⟩ := unhide HJ
        clear x14 xf14 HJ
        generalize w10.setCell ⟨g, 14, none⟩ (.slice q10 n10 c10) = W10 at *
        generalize newK K9 W9 W10 = K10 at *
        clear w10
        revert hb10 hm10
        revert W10 K10 q10 n10 c10
        exact unhide key
     case pf =>
      intro q10 n10 c10 W10 K10 hb10 hm10
      have d16 := (nineteen_cells hb10.blk).2.2.1.2.1
      have g16 := (nineteen_cells hb10.blk).2.2.2 16
      have hM10 : Moves K K10 wq W10 := (unhide HM8).trans ((unhide HM9).trans hm10)
      obtain ⟨hb11, hk11⟩ := hb10.setNext (b1.next + N.toNat)
      have hM11 : Moves K K10 wq (W10.setCell ⟨g, 16, none⟩ (.int .u64 ((b1.next + N.toNat : Nat) : Int))) := ⟨hM10.keep.trans hk11 hM10.sub, hM10.sub⟩
      have hNn : (N.toNat : Int) = N := by omega
      rw [Int.natCast_add, hNn] at hb11 hM11
      have hBn := unhide HNX1
      have hBI : (b1.next : Int) + 64 < 9223372036854775808 := by omega
      have hN19 : N ≤ 19 := unhide HNB
      have hbo := unhide HBo6
      obtain ⟨W11, hW11⟩ : ∃ W11, W11 = W10.setCell ⟨g, 16, none⟩ (.int .u64 ((b1.next : Int) + N)) := ⟨_, rfl⟩
      rw [← hW11] at hb11 hM11
      have hbo11 : Both F3 G3 W11 (.pointer (some lg)) dp 256 S M := ⟨hbo.dev.stays hM11.keep.size (fun k hk => hM11.keep.block k (hbo.dev.lt k hk) (unhide HAPF k hk)), hbo.log.keep hM11.keep (fun k hk hg => unhide HAPG k hg hk), hbo.apart, hbo.size⟩
      have hx11 : Row W11 (.slice xp xl xc) x := (unhide HX6).keep hM11.keep (fun b' off c e hne hk => (unhide HOUT b' off _ c e hne).2.2 hk)
      have hapF : ∀ k, F3 k → ¬ K10 k := fun k hk hK => by
        rcases hM11.sub k hK with h | h
        · exact unhide HAPF k hk h
        · have := hbo.dev.lt k hk; omega
      have hapG : ∀ k, G3 k → ¬ K10 k := fun k hk hK => by
        rcases hM11.sub k hK with h | h
        · exact unhide HAPG k hk h
        · have := hbo.log.lt k hk; omega
      have hHeld : Held F3 G3 K10 W11 g (.pointer (some lg)) dp S M { b1 with recs := b1.recs ++ [x], turns := b1.turns ++ [b1.next], ages := b1.ages ++ [b1.age], next := b1.next + N.toNat } (.slice q8 n8 c8) (.slice q9 n9 c9) (.slice q10 n10 c10) := ⟨hbo11, hb11, hapF, hapG⟩
      rw [unhide HB1W, (unhide HE1).2.2.2.1, ← unhide HPOST _ rfl] at hHeld
      have hMall : Moves (all3 F G K) (all3 F3 G3 K10) w W11 := by
        have h5 := unhide HM5
        refine ⟨((h5.keep.weak (G := all3 F G K) (fun k hk => hk.elim Or.inl (fun h => Or.inr (Or.inl h)))).trans (unhide HKQ) (fun k hk => Or.inl (Or.inr (Or.inr hk)))).trans hM11.keep (fun k hk => Or.inl (Or.inr (Or.inr hk))), fun k hk => ?_⟩
        rcases hk with hk | hk | hk
        · rcases h5.sub k (Or.inl hk) with h | h
          · exact Or.inl (h.elim Or.inl (fun h => Or.inr (Or.inl h)))
          · exact Or.inr h
        · rcases h5.sub k (Or.inr hk) with h | h
          · exact Or.inl (h.elim Or.inl (fun h => Or.inr (Or.inl h)))
          · exact Or.inr h
        · rcases hM11.sub k hk with h | h
          · exact Or.inl (Or.inr (Or.inr h))
          · exact Or.inr (Nat.le_trans h5.keep.size (Nat.le_trans (unhide HKQ).size h))
      have hMd : M = L.down := unhide HA6
      have hMf : M.fallen = true := by rw [hMd]; rfl
      have hMM : M.down = M := by rw [hMd]; rfl
      have hMn : M.next = L.next := by rw [hMd]; rfl
      have eA : appE 256 S M x = 40 ∧ appS 256 S M x = S ∧ appL 256 S M x = M := by
        have h8 := unhide HH8
        have e1 : appE 256 S M x = 40 := by unfold appE; rw [if_neg h8, if_pos (Or.inl hMf)]
        refine ⟨e1, ?_, ?_⟩
        · unfold appS; rw [if_neg h8, if_pos (Or.inl hMf)]
        · unfold appL; rw [e1]; exact hMM
      have HAX := hide (wappend_any F3 G3 (.pointer (some lg)) dp 256 S M (.slice xp xl xc) x W11 hbo11 hx11 (unhide HW2) (unhide HT2) (by have := unhide HNX; omega))
      rw [eA.1, eA.2.1, eA.2.2] at HAX
      have eY : syncE S M = 40 ∧ syncS S M = S ∧ syncL S M = M := ⟨by unfold syncE; rw [if_pos hMf], by unfold syncS; rw [if_pos hMf], by unfold syncL; rw [if_pos hMf]⟩
      have HSX := hide (fun F' G' w' (h : Both F' G' w' (.pointer (some lg)) dp 256 S M) => wsync_any F' G' (.pointer (some lg)) dp 256 S M w' h (by have := unhide HW2; omega) (by have := unhide HT2; omega))
      rw [eY.1, eY.2.1, eY.2.2] at HSX
      have k10 := (nineteen_cells hb10.blk).1.2.2.1
      have HMD := hide hMd
      have HHELD := hide hHeld
      have HMALL := hide hMall
      have HW11 := hide hW11
      clear hb10 hm10 hM10 hb11 hk11 hM11 hBn hbo hW11 hbo11 hx11 hapF hapG hHeld hMall d14 d11 g14 HAR HAN hne9 e14 hNn hMd hMf hMM hMn eA eY
      go_wp2_with fail
      rw [← unhide HW11]
      refine Calls.mono (unhide HAX) ?_
      rintro e w12 ⟨rfl, F12, G12, hbo12, hm12⟩
      have HH12 : Hid (Held F12 G12 K10 w12 g (.pointer (some lg)) dp S M { b with recs := b.recs ++ [x], turns := b.turns ++ [b.next], ages := b.ages ++ [b.age], next := b.next + (countN x.length).toNat, dead := true } (.slice q8 n8 c8) (.slice q9 n9 c9) (.slice q10 n10 c10) ∧ Moves (all3 F G K) (all3 F12 G12 K10) w w12) := held_on (unhide HHELD) (unhide HMALL) hbo12 hm12
      have k10' := (nineteen_cells (unhide HH12).1.at_.blk).1.2.2.1
      have HSY := hide (unhide HSX F12 G12 w12 hbo12)
      clear hbo12 hm12 HAX HHELD HMALL k10 HSX
      go_wp2_with fail
      refine Calls.mono (unhide HSY) ?_
      rintro e w13 ⟨rfl, F13, hbo13, hm13⟩
      have HH13 := hide (held_on (unhide HH12).1 (unhide HH12).2 hbo13 hm13)
      have HMD2 := HMD
      clear hbo13 hm13 HH12 HSY k10' HMD
      go_wp2_with fail
      go_ret
      have h13 := unhide HH13
      rw [unhide HMD2] at h13
      exact ⟨rfl, F13, G12, K10, _, _, _, h13⟩
end Go.Proofs.YtpkpjmebkikgdaaGreat
