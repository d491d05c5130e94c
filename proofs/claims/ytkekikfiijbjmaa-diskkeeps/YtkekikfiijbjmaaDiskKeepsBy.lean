/- The walk of the law DiskKeeps, by the contracts of package disk. -/
import Derived.Test.YtkekikfiijbjmaaDiskOne
import Derived.Test.YtkekikfiijbjmaaDiskCalm
import Derived.Test.YtkekikfiijbjmaaDiskFalls
import Derived.Test.YtkekikfiijbjmaaDiskRan
import Derived.Test.YtkekikfiijbjmaaRowOwn
import Derived.Test.YtkekikfiijbjmaaAppStep
import Derived.Test.YtkekikfiijbjmaaMemStep
import Derived.Test.YtkekikfiijbjmaaBytes
namespace Go.Proofs.Ytkekikfiijbjmaa
open Go.RowKit

theorem calm_flushE (s : DK) : (s.start.arm 0).flushE = 0 := by
  have h1 : s.start.fell = false := by unfold DK.start; split; rfl; rename_i hf; simpa using hf
  have h2 : s.start.arm 0 = { s.start with armed := 0, ticks := 0 } := by unfold DK.arm; rw [if_neg (by rw [h1]; decide)]; rfl
  rw [h2]
  unfold DK.flushE
  rw [if_neg (by show ¬ s.start.fell = true; rw [h1]; decide), if_neg (show ¬ (0 : Nat) = 1 by decide)]
theorem calm_ticks (s : DK) : (s.start.arm 0).ticks = 0 := by
  have h1 : s.start.fell = false := by unfold DK.start; split; rfl; rename_i hf; simpa using hf
  unfold DK.arm
  rw [if_neg (by rw [h1]; decide)]
theorem calm_waits (s : DK) : (s.start.arm 0).waits.length ≤ s.waits.length := by
  have h1 : s.start.waits.length ≤ s.waits.length := by unfold DK.start; split <;> simp
  unfold DK.arm
  split <;> exact h1

theorem length_fullS_false (v : UInt8) : (fullS v false).length = 512 := by simp [fullS, length_fullB]

/-- The writes of which the first bytes are told; those of one sector. -/
def wOf (V : List (Nat × UInt8)) : List (Nat × List UInt8) := V.map fun p => (p.1, fullS p.2 false)
def mayOf (V : List (Nat × UInt8)) (j : Nat) : List UInt8 := (V.filter fun p => p.1 == j).map Prod.snd
theorem wOf_snoc (V : List (Nat × UInt8)) (a : Nat) (v : UInt8) : wOf (V ++ [(a, v)]) = wOf V ++ [(a, fullS v false)] := by simp [wOf]
theorem length_wOf (V : List (Nat × UInt8)) : (wOf V).length = V.length := by simp [wOf]
theorem mayOf_snoc (V : List (Nat × UInt8)) (a : Nat) (v : UInt8) (j : Nat) : mayOf (V ++ [(a, v)]) j = if j = a then mayOf V a ++ [v] else mayOf V j := by
  unfold mayOf
  rw [List.filter_append, List.map_append]
  by_cases h : j = a
  · subst h
    simp
  · rw [if_neg h]
    have : ((a, v).1 == j) = false := by rw [beq_eq_false_iff_ne]; exact fun e => h e.symm
    simp [this]

/-- A sector behind a fall: what was there, or one of those whose first bytes are told. -/
theorem keeps_or (ks : List Bool) (K : Nat → List UInt8) (V : List (Nat × UInt8)) (j : Nat) : keepSome ks K 0 (wOf V) j = K j ∨ ∃ v ∈ mayOf V j, keepSome ks K 0 (wOf V) j = fullS v false := by
  rcases keepSome_or ks j (wOf V) K 0 with h | ⟨a, h1, h2, h3⟩
  · exact Or.inl h
  · right
    unfold wOf at h1
    obtain ⟨p, hp, hpe⟩ := List.mem_map.1 h1
    have hp1 : p.1 = a.1 := by rw [← hpe]
    have hp2 : fullS p.2 false = a.2 := by rw [← hpe]
    refine ⟨p.2, ?_, h3.trans hp2.symm⟩
    unfold mayOf
    refine List.mem_map.2 ⟨p, List.mem_filter.2 ⟨hp, ?_⟩, rfl⟩
    rw [beq_iff_eq]
    exact hp1.trans h2

section
variable {DR : (Nat → Prop) → World → Value → DK → Prop} (C : DiskC DR)
include C

set_option maxRecDepth 20000 in
set_option maxHeartbeats 16000000 in
theorem keeps_any (sv mv kv : Value) (l m : List OpD) (ks : List Bool) (w : World) (hl : Ops w sv l) (hm : Ops w mv m) (hk : BRow w kv ks) : Calls Try.prog 4 #[sv, mv, kv] w fun e w' => e = .returned (.bool true) ∧ Below w.heap.size w w' := by
  have HM := hide hm
  have HKS := hide hk
  obtain ⟨ma, mc, rfl, hmc, hmm⟩ := hm.shape
  have hmI : (m.length : Int) ≤ 9223372036854775807 := by unfold maxLen at hmm; omega
  obtain ⟨kq, kc, rfl, hkc, hkm⟩ := hk.shape
  have hkI : (ks.length : Int) ≤ 9223372036854775807 := by unfold maxLen at hkm; omega
  have HRAN := hide (ran_any C sv l w hl)
  obtain ⟨s, hs⟩ : ∃ s, s = runK l 100 (DK.new 8) := ⟨_, rfl⟩
  have hle := runK_le l 100 (DK.new 8)
  have hsn := runK_n l 100 (DK.new 8)
  rw [← hs] at HRAN hle hsn
  have HSW : Hid (s.waits.length ≤ 100) := by have := hle.1; have h0 : (DK.new 8).waits.length = 0 := rfl; unfold Hid; omega
  have HSN := hide hsn
  clear hl hm hk hmm hkm hs hle hsn
  go_enter Try.func4, Try.ntmps4
  go_wp2_with fail
  refine Calls.mono (unhide HRAN) ?_
  rintro e w1 ⟨da, rfl, ⟨F, hd, hF⟩, hb1⟩
  have HD := hide hd
  have HF := hide hF
  clear HRAN hd hF
  go_wp2_with fail
  refine (awake_any C w1).mono ?_
  rintro e w2 ⟨rfl, hb2⟩
  have B2 := hb1.trans (hb2.mono hb1.size)
  have hd2 := C.stays (unhide HD) hb2.size (fun k hk => hb2.block k (C.lt (unhide HD) k hk))
  have hok := C.ok hd2
  obtain ⟨K, hK, hKl⟩ := calmed s hok
  rw [unhide HSN] at hK
  have H1 := hide (DS.start C (DS.start_ hd2))
  have HW2 : Hid ((s.start.arm 0).waits.length ≤ 1048576) := by have := unhide HSW; have := calm_waits s; unfold Hid; omega
  have HK := hide hK
  have HKL := hide hKl
  clear HD hd2 hb1 hb2 hok hK hKl HSW HSN
  go_wp2_with fail
  refine Calls.mono (unhide H1) ?_
  rintro e w3 ⟨rfl, hm3⟩
  have H2 := hide (DS.arm C hm3 0 (by omega))
  clear H1 hm3
  go_wp2_with fail
  refine Calls.mono (unhide H2) ?_
  rintro e w4 ⟨rfl, hm4⟩
  have H3 := hide (DS.flush C hm4 (unhide HW2) (by rw [calm_ticks]; omega))
  rw [unhide HK, calm_flushE] at H3
  clear H2 hm4 HW2
  go_wp2_with fail
  refine Calls.mono (unhide H3) ?_
  rintro e w5 ⟨rfl, F5, hd5, hm5⟩
  have HF5 : Hid (∀ k, F5 k → w.heap.size ≤ k) := fun k hk => by
    rcases hm5.sub k hk with h | h
    · exact unhide HF k h
    · have := B2.size; omega
  have B5 : Below w.heap.size w w5 := B2.trans (hm5.keep.below B2.size (unhide HF))
  have hF5l := C.lt hd5
  obtain ⟨Z8, hZ8⟩ : ∃ Z8 : Array Value, Z8 = (List.replicate 8 (Value.slice none 0 0)).toArray := ⟨_, rfl⟩
  obtain ⟨wx, hwx⟩ : ∃ wx, wx = w5.alloc (.cells Z8 41) := ⟨_, rfl⟩
  obtain ⟨w6, hw6⟩ : ∃ w6, w6 = wx.alloc (.cells Z8 41) := ⟨_, rfl⟩
  have hbx : Below w5.heap.size w5 wx := by rw [hwx]; exact (Below.refl _ _).alloc (Nat.le_refl _) _
  have hb6 : Below wx.heap.size wx w6 := by rw [hw6]; exact (Below.refl _ _).alloc (Nat.le_refl _) _
  have hyx : wx.heap.size = w5.heap.size + 1 := by rw [hwx]; simp
  have hFx : ∀ k, F5 k → k < wx.heap.size := fun k hk => by have := hF5l k hk; omega
  have HM6 : Hid (MayAt F5 w6 wx.heap.size 41 5 w.heap.size Z8 (fun _ => [])) := by
    have := MayAt.made F5 wx 41 5 w.heap.size hFx
    rw [← hZ8, ← hw6] at this
    exact this
  have HA6 : Hid (ArrH (foot F5 wx.heap.size Z8) w6 w5.heap.size 41 8 (fun _ => [])) := by
    have h1 := ArrH.made F5 w5 41 8 hF5l
    rw [← hZ8, ← hwx] at h1
    have h2 := h1.below hb6
    obtain ⟨cur, q1, q2, q3, q4⟩ := h2
    have hff : ∀ b, foot F5 wx.heap.size Z8 b → F5 b ∨ b = wx.heap.size := fun b hb => by
      rcases hb with hb | hb | ⟨j, v, hv, ho⟩
      · exact Or.inl hb
      · exact Or.inr hb
      · rw [hZ8, List.getElem?_toArray] at hv
        rw [List.eq_of_mem_replicate (List.mem_of_getElem? hv)] at ho
        cases ho
    refine ⟨cur, q1, q2, fun hf => ?_, fun j hj => ?_⟩
    · rcases hff _ hf with h | h
      · exact q3 h
      · omega
    · obtain ⟨v, e, hv, hv2⟩ := q4 j hj
      refine ⟨v, e, hv, fun b off n c e' hn => ?_⟩
      obtain ⟨p', c', l', e'', hl''⟩ := hv.shape
      rw [e'] at e''
      simp only [Value.slice.injEq] at e''
      simp at hl''
      omega
  have hb56 : Below w5.heap.size w5 w6 := hbx.trans (hb6.mono (by omega))
  have HD6 := hide (C.stays hd5 hb56.size (fun k hk => hb56.block k (hF5l k hk)))
  have HB6 := hide (B5.trans (hb56.mono B5.size))
  have HX0 : Hid (w.heap.size ≤ w5.heap.size ∧ w.heap.size ≤ wx.heap.size) := by have := B5.size; unfold Hid; omega
  have HW6 : Hid ((w5.alloc (.cells #[.slice none 0 0, .slice none 0 0, .slice none 0 0, .slice none 0 0, .slice none 0 0, .slice none 0 0, .slice none 0 0, .slice none 0 0] 41)).alloc (.cells #[.slice none 0 0, .slice none 0 0, .slice none 0 0, .slice none 0 0, .slice none 0 0, .slice none 0 0, .slice none 0 0, .slice none 0 0] 41) = w6) := by
    rw [hw6, hwx, hZ8]
    rfl
  have hyx' : w5.heap.size + 1 = wx.heap.size := hyx.symm
  clear H3 hd5 hm5 HF B2 B5 hb6 hbx hb56 hF5l hFx hZ8 hwx hw6 hyx
  go_wp2_with fail
  rw [unhide HW6]
  clear HW6 hyx'
  generalize w5.heap.size = x at *
  generalize wx.heap.size = y at *
  -- what is shown at first
  go_loopw [10] (fun i wr => ∃ k : Nat, k ≤ 8 ∧ i = .int .i64 k ∧ Hid (DR F5 wr (.pointer (some da)) (calm (DK.new 8).n K s.turns) ∧ ArrH (foot F5 y Z8) wr x 41 8 (fun j => if j < k then K j else []) ∧ MayAt F5 wr y 41 5 w.heap.size Z8 (fun _ => []) ∧ Below w.heap.size w wr)) (fun i _ => 8 - (intOf i).toNat)
  case atStart => exact ⟨0, by omega, rfl, unhide HD6, (unhide HA6).congr (fun j _ => by simp), unhide HM6, unhide HB6⟩
  case round =>
    obtain ⟨k, hk8, rfl, hS⟩ := hrel
    by_cases hlt : (k : Int) < 8
    · obtain ⟨hdr, har, hmy, hbel⟩ := hS.out
      obtain ⟨e1, e2⟩ := calm_read (n := (DK.new 8).n) (K := K) (T := s.turns) (a := k) hlt
      have HRD := hide (C.read F5 _ _ (k : Int) wr hdr (by show (0 : Nat) ≤ _; omega))
      rw [e1, e2] at HRD
      have HDR := hide hdr
      have HAR := hide har
      have HMY := hide hmy
      have HBE := hide hbel
      clear hS hdr har hmy hbel e1 e2
      go_wp2_with fail
      refine Calls.mono (unhide HRD) ?_
      rintro e w7 ⟨t, rfl, hm7, hb7⟩
      have har7 := (unhide HAR).below hb7
      have hmy7 := (unhide HMY).below hb7
      obtain ⟨u, q1, q2, _⟩ := har7.at k (by omega)
      have hfl : ∀ b, foot F5 y Z8 b → b < wr.heap.size := fun b hb => by
        rcases hb with hb | hb | ⟨j, v, hv, ho⟩
        · exact C.lt (unhide HDR) b hb
        · rw [hb]; exact (unhide HMY).lt
        · exact ((unhide HMY).rowlt hv ho).1
      have hh7 := Held.of_mine (x := x) hm7 hfl (unhide HAR).lt
      have hst := har7.store k (by omega) t _ hh7
      have hd7 := C.stays (unhide HDR) hb7.size (fun b hb => hb7.block b (C.lt (unhide HDR) b hb))
      have hnx : ¬ foot F5 y Z8 x := by obtain ⟨_, _, _, h3, _⟩ := har7; exact h3
      have HN : Hid (DR F5 (w7.setCell ⟨x, k, none⟩ t) (.pointer (some da)) (calm (DK.new 8).n K s.turns) ∧ ArrH (foot F5 y Z8) (w7.setCell ⟨x, k, none⟩ t) x 41 8 (fun j => if j < k + 1 then K j else []) ∧ MayAt F5 (w7.setCell ⟨x, k, none⟩ t) y 41 5 w.heap.size Z8 (fun _ => []) ∧ Below w.heap.size w (w7.setCell ⟨x, k, none⟩ t)) := by
        refine ⟨C.stays hd7 (by simp) (fun b hb => Below.heap_setCell _ _ _ _ (fun (e : b = x) => hnx (Or.inl (e ▸ hb)))), hst.congr (fun j hj => ?_), ?_, ((unhide HBE).trans (hb7.mono (unhide HBE).size)).setCell (p := ⟨x, k, none⟩) (unhide HX0).1 _⟩
        · by_cases h1 : j = k
          · subst h1
            rw [if_pos rfl, if_pos (by omega)]
          · rw [if_neg h1]
            by_cases h2 : j < k
            · rw [if_pos h2, if_pos (by omega)]
            · rw [if_neg h2, if_neg (by omega)]
        · have hk : Keep (fun b => b = x) w7 (w7.setCell ⟨x, k, none⟩ t) := ⟨rfl, rfl, rfl, by simp, fun b _ hn => by rw [Below.heap_setCell _ _ _ _ hn]⟩
          exact hmy7.keep hk (fun b e => ⟨fun e' => hnx (Or.inr (Or.inl (by omega))), fun j v hv ho => hnx (Or.inr (Or.inr ⟨j, v, hv, by rw [ho, e]⟩))⟩) (fun b hb => Or.inl hb)
      obtain ⟨tp, tc, tl, rfl, _⟩ := hm7.row.shape
      have hk8' : k < 8 := by omega
      clear har7 hmy7 hh7 hst hd7 hnx hm7 hb7 HRD HDR HAR HMY HBE hk8 hfl
      go_wp2
      go_roundw
      case rel => exact ⟨k + 1, by omega, by go_num, HN⟩
      case measure => simp [intOf]; omega
    · have hk : k = 8 := by omega
      subst hk
      obtain ⟨hdr, har, hmy, hbel⟩ := hS.out
      have HAR0 : Hid (ArrH (foot F5 y Z8) wr x 41 8 K) := har.congr (fun j hj => by rw [if_pos hj])
      have HDR0 : Hid (DR F5 wr (.pointer (some da)) (wet (DK.new 8).n K [] s.turns)) := hdr
      have HMY0 : Hid (MayAt F5 wr y 41 5 w.heap.size Z8 (mayOf [])) := hmy
      have HBE0 := hide hbel
      obtain ⟨w0, hw0⟩ : ∃ w0, w0 = wr := ⟨_, rfl⟩
      rw [← hw0] at HAR0 HDR0 HMY0 HBE0
      rw [← hw0]
      clear hS hdr har hmy hbel hw0 HA6 HD6 HM6 HB6 HK
      go_wp2_with fail
      -- the writes
      go_loopw [13] (fun i wr => ∃ (k : Nat) (V : List (Nat × UInt8)) (F6 : Nat → Prop) (cur : Array Value), k ≤ 60 ∧ k ≤ m.length ∧ i = .int .i64 k ∧ Hid (DR F6 wr (.pointer (some da)) (wet (DK.new 8).n K (wOf V) s.turns) ∧ ArrH (foot F6 y cur) wr x 41 8 K ∧ MayAt F6 wr y 41 5 w.heap.size cur (mayOf V) ∧ (∀ b, F6 b → w.heap.size ≤ b) ∧ Below w.heap.size w wr ∧ V.length ≤ k)) (fun i _ => 60 - (intOf i).toNat)
      case atStart => exact ⟨0, [], F5, Z8, by omega, by omega, rfl, unhide HDR0, unhide HAR0, unhide HMY0, unhide HF5, unhide HBE0, Nat.le_refl _⟩
      case round =>
        clear HAR0 HDR0 HMY0 HBE0
        obtain ⟨k, V, F6, cur, hk60, hkm, rfl, hS⟩ := hrel
        by_cases hgo : (k : Int) < m.length ∧ (k : Int) < 60
        · obtain ⟨hlt, h60⟩ := hgo
          obtain ⟨hdr, har, hmy, hF6, hbel, hWl⟩ := hS.out
          have hkn : k < m.length := by omega
          obtain ⟨b, off, cap, kv', es, hbl, hcap, _, _, _, hcells⟩ := (unhide HM).at k hkn
          simp only [Value.slice.injEq, true_and] at es
          obtain ⟨rfl, rfl⟩ := es
          obtain ⟨c0, c1, _, c3, _, _, _⟩ := hcells wr hbel
          by_cases hk0 : m[k].kind = 0
          · have t0 : (m[k].kind == 0) = true := by rw [beq_iff_eq]; exact hk0
            have HDR := hide hdr
            have HAR := hide har
            have HMY := hide hmy
            have HF6 := hide hF6
            have HBE := hide hbel
            have HWL := hide hWl
            have HCE := hide hcells
            have HFU := hide (full_any m[k].v false wr)
            have hlen : (fullS m[k].v false).length = 512 := length_fullS_false m[k].v
            have HSC : Hid (∀ w', Below wr.heap.size wr w' → w'.cell? ⟨b, off + k * 6, none⟩ = some (.int .i64 m[k].kind) ∧ w'.cell? ⟨b, off + k * 6 + 1, none⟩ = some (.int .i64 m[k].at_) ∧ w'.cell? ⟨b, off + k * 6 + 3, none⟩ = some (.int .u8 (m[k].v.toNat : Int))) := fun w' hb => by
              obtain ⟨q0, q1, _, q3, _⟩ := hcells w' (hbel.trans (hb.mono hbel.size))
              exact ⟨q0, q1, q3⟩
            have HSD : Hid (∀ w', Below w.heap.size w w' → w'.cell? ⟨b, off + k * 6, none⟩ = some (.int .i64 m[k].kind) ∧ w'.cell? ⟨b, off + k * 6 + 1, none⟩ = some (.int .i64 m[k].at_) ∧ w'.cell? ⟨b, off + k * 6 + 3, none⟩ = some (.int .u8 (m[k].v.toNat : Int))) := fun w' hb => by
              obtain ⟨q0, q1, _, q3, _⟩ := hcells w' hb
              exact ⟨q0, q1, q3⟩
            clear hS hdr har hmy hF6 hbel hWl hcells hk0 HFU HCE
            generalize m[k] = o at *
            have HFU := hide (full_any o.v false wr.drew)
            have hS0 := unhide HSC _ ((Below.refl wr.heap.size wr).drew)
            clear c0 c1 c3
            have HWR : Hid (∀ w' t, Below wr.drew.heap.size wr.drew w' → Mine w' wr.drew.heap.size t (fullS o.v false) → Calls Try.prog 19 #[.pointer (some da), .int .i64 o.at_, t] w' fun e w'' => e = .returned (.int .i64 ((wet (DK.new 8).n K (wOf V) s.turns).writeE o.at_ (fullS o.v false))) ∧ ∃ F', DR F' w'' (.pointer (some da)) ((wet (DK.new 8).n K (wOf V) s.turns).write o.at_ (fullS o.v false)) ∧ Moves F6 F' w' w'') := fun w' t hb hm => by
              have hb' : Below wr.heap.size wr w' := (Below.refl wr.heap.size wr).drew.trans hb
              have hd' := C.stays (unhide HDR) hb'.size (fun b hb => hb'.block b (C.lt (unhide HDR) b hb))
              have hh' := Held.of_mine (x := x) hm (fun b hb => C.lt (unhide HDR) b hb) (unhide HAR).lt
              exact C.write F6 _ _ o.at_ t _ w' hd' hm.row (fun b off n c e hn => (hh'.2 b off n c e hn).1) (by show (wOf V).length ≤ _; rw [length_wOf]; have := unhide HWL; omega) (by show (wOf V).length + 1 ≤ _; rw [length_wOf]; have := unhide HWL; omega)
            have HBW : Hid (Below w.heap.size w wr.drew) := (unhide HBE).drew
            obtain ⟨WE, hWE⟩ : ∃ WE, WE = (wet (DK.new 8).n K (wOf V) s.turns).writeE o.at_ (fullS o.v false) := ⟨_, rfl⟩
            rw [← hWE] at HWR
            have HWE := hide hWE
            clear hWE
            go_wp2_with fail
            go_region_held3 (fun w' => w'.cell? ⟨b, off + k * 6, none⟩ = some (.int .i64 o.kind) ∧ w'.cell? ⟨b, off + k * 6 + 1, none⟩ = some (.int .i64 o.at_) ∧ w'.cell? ⟨b, off + k * 6 + 3, none⟩ = some (.int .u8 (o.v.toNat : Int))) (first | exact hS0 | exact hS7 | exact hS8) (first
              | (go_at_call 20; refine Calls.mono (unhide HFU) ?_; rintro e w7 ⟨t, rfl, hm7, hb7⟩; have hbb7 := (unhide HBW).trans (hb7.mono (unhide HBW).size); have hS7 := unhide HSD _ hbb7; obtain ⟨tp, tc, tl, rfl, _⟩ := hm7.row.shape; have HM7 := hide hm7; have HB7 := hide hb7; have HBB7 := hide hbb7; clear hm7 hb7 hbb7)
              | (go_at_call 19; refine Calls.mono (unhide HWR _ _ (unhide HB7) (unhide HM7)) ?_; rintro e w8 ⟨rfl, F8, hd8, hmv8⟩; have hbb8 := (unhide HBB7).trans (hmv8.keep.below (unhide HBB7).size (unhide HF6)); have hS8 := unhide HSD _ hbb8; have HD8 := hide hd8; have HMV8 := hide hmv8; have HBB8 := hide hbb8; clear hd8 hmv8 hbb8))
            have HAR7 : Hid (ArrH (foot F6 y cur) w7 x 41 8 K) := ((unhide HAR).below ((Below.refl wr.heap.size wr).drew)).below (unhide HB7)
            have HMY7 : Hid (MayAt F6 w7 y 41 5 w.heap.size cur (mayOf V)) := ((unhide HMY).below ((Below.refl wr.heap.size wr).drew)).below (unhide HB7)
            have hF8 : ∀ b, F8 b → w.heap.size ≤ b := fun b hb => by
              rcases (unhide HMV8).sub b hb with h | h
              · exact unhide HF6 b h
              · have := (unhide HBB7).size; omega
            have har8 := (unhide HAR7).moves (foot_moves (unhide HMV8))
            have hmy8 := (unhide HMY7).moves (unhide HMV8)
            have hd8 := unhide HD8
            have hbb8 := unhide HBB8
            have hs8 := unhide HSD _ hbb8
            have hwe := unhide HWE
            clear HAR7 HMY7 HMV8 HD8 HBB7 HB7 HM7 HWR HFU HBW HAR HMY HDR HBE hS0 HSC HF6 hS7 hS8
            by_cases hin : 0 ≤ o.at_ ∧ o.at_ < 8
            · obtain ⟨A, hA⟩ := Int.eq_ofNat_of_zero_le hin.1
              have hA8 : A < 8 := by omega
              obtain ⟨e1, e2⟩ := wet_write (n := (DK.new 8).n) (K := K) (W := wOf V) (T := s.turns) (a := A) (b := fullS o.v false) (by show (A : Int) < ((8 : Nat) : Int); omega) hlen
              rw [hA, e2, ← wOf_snoc] at hd8
              rw [hA, e1] at hwe
              rw [hwe]
              rw [hA] at hs8
              clear hwe e1 e2 hin HWE
              obtain ⟨i0, hi, hz0, hz1, hz2⟩ := info_parts Try.info5
              obtain ⟨va, hcv, q1, q2, hown8, qa, ca, hva⟩ := hmy8.at A hA8
              have hlM : (mayOf V A).length ≤ 60 := by
                unfold mayOf
                rw [List.length_map]
                have := List.length_filter_le (fun p => p.1 == A) V
                have := unhide HWL
                omega
              have HSE : Hid (∀ w', Below w.heap.size w w' → w'.cell? ⟨b, off + k * 6 + 1, none⟩ = some (.int .i64 (A : Int)) ∧ w'.cell? ⟨b, off + k * 6 + 3, none⟩ = some (.int .u8 (o.v.toNat : Int))) := fun w' hb => by
                obtain ⟨_, q1, q3⟩ := unhide HSD w' hb
                rw [hA] at q1
                exact ⟨q1, q3⟩
              obtain ⟨w8a, hw8a⟩ : ∃ w8a, w8a = (w8.alloc (.cells #[.int .u8 (o.v.toNat : Int)] 5)).drew := ⟨_, rfl⟩
              have hb8a : Below w8.heap.size w8 w8a := by rw [hw8a]; exact ((Below.refl _ _).alloc (Nat.le_refl _) _).drew
              have hown8a : w8a.ownsRow w.heap.size 5 1 va (mayOf V A).length ((mayOf V A).map B) := grow_stays hown8 (fun b hb => hb8a.block b (grow_lt hown8 b hb))
              have hnew8a : ∀ j u, [B o.v][j]? = some u → w8a.cell? ((⟨w8.heap.size, 0, none⟩ : Addr).add j) = some u := fun j u hu => by
                match j with
                | 0 =>
                  simp at hu
                  subst hu
                  rw [Addr.add_lit, hw8a]
                  show (w8.alloc (.cells #[.int .u8 (o.v.toNat : Int)] 5)).cell? _ = _
                  rw [cell_of_row _ w8.heap.size 0 _ _ (0, 0) (heap_alloc_new _ _)]
                  rfl
                | j + 1 => simp at hu
              have hFl8 : ∀ b, F8 b → b < w8.heap.size := C.lt hd8
              have HAPP : Hid (∀ v9 w9, w9.ownsRow w.heap.size 5 1 v9 ((mayOf V A).length + 1) ((mayOf V A).map B ++ [B o.v]) → w8a.grownBy w9 va.ownBlock → (v9.ownBlock = va.ownBlock ∨ v9.ownBlock = some w8a.heap.size) →
                  (w9.cell? ⟨y, A, none⟩ = some va ∧ w9.frozen? ⟨y, A, none⟩ = false ∧ Below w.heap.size w w9 ∧ (∃ q c, v9 = .slice q ((mayOf V A).length + 1) c)) ∧ DR F8 (w9.setCell ⟨y, A, none⟩ v9) (.pointer (some da)) (wet (DK.new 8).n K (wOf (V ++ [(A, o.v)])) s.turns) ∧ ArrH (foot F8 y (cur.setIfInBounds A v9)) (w9.setCell ⟨y, A, none⟩ v9) x 41 8 K ∧ MayAt F8 (w9.setCell ⟨y, A, none⟩ v9) y 41 5 w.heap.size (cur.setIfInBounds A v9) (mayOf (V ++ [(A, o.v)])) ∧ (∀ b, F8 b → w.heap.size ≤ b) ∧ Below w.heap.size w (w9.setCell ⟨y, A, none⟩ v9) ∧ (V ++ [(A, o.v)]).length ≤ k + 1) := fun v9 w9 ho hg hvo => by
                obtain ⟨p1, p2, p3⟩ := hmy8.app hFl8 hA8 hcv (u := o.v) hb8a ho hg hvo
                have hy8 := hmy8.lt
                have hvy : va.ownBlock ≠ some y := fun e => (hmy8.rowlt hcv e).2.2 rfl
                have hblk9 : w9.heap[y]? = some (.cells cur 41 (0, 0)) := (hg.block y (Nat.lt_of_lt_of_le hy8 hb8a.size) (fun e => hvy e.symm)).trans ((hb8a.block y hy8).trans hmy8.blk)
                have hlo : ∀ b, foot F8 y cur b → w.heap.size ≤ b := fun b hb => by
                  rcases hb with hb | hb | ⟨j, v, hv, ho⟩
                  · exact hF8 b hb
                  · rw [hb]; exact (unhide HX0).2
                  · exact hmy8.low hv ho
                have hb9 : Below w.heap.size w w9 := by
                  have h1 := hbb8.trans (hb8a.mono hbb8.size)
                  exact h1.grown hg h1.size (fun b e => hmy8.low hcv e)
                refine ⟨⟨?_, frozen_of_block hblk9, hb9, ?_⟩, C.stays hd8 (by rw [World.size_setCell]; exact Nat.le_trans hb8a.size hg.size) p3, har8.moves p2, ?_, hF8, hb9.setCell (p := ⟨y, A, none⟩) (unhide HX0).2 _, by rw [List.length_append]; have := unhide HWL; simp; omega⟩
                · rw [cell_of_row w9 y A _ _ (0, 0) hblk9]
                  exact hcv
                · rcases ho.2 with ⟨_, h0⟩ | ⟨h2, cap2, cur2, e2, _⟩
                  · omega
                  · exact ⟨_, _, e2⟩
                · have e : (fun i => if i = A then mayOf V A ++ [o.v] else mayOf V i) = mayOf (V ++ [(A, o.v)]) := funext fun i => (mayOf_snoc V A o.v i).symm
                  rw [← e]
                  exact p1
              have HBd : Hid (Below w.heap.size w w8.drew) := hbb8.drew
              have HBa : Hid (Below w.heap.size w w8a) := hbb8.trans (hb8a.mono hbb8.size)
              have HOW := hide hown8a
              have HNE := hide hnew8a
              have HBS : Hid (w.heap.size ≤ w8a.heap.size) := (unhide HBa).size
              have hyl := hmy8.lt
              obtain ⟨d1, d3⟩ := unhide HSE _ hbb8
              have hbl8 : b < w8.heap.size := Nat.lt_of_lt_of_le hbl hbb8.size
              have hA8I : (A : Int) < 8 := by omega
              subst hva
              rw [hw8a] at HOW HNE HAPP HBa HBS
              clear hw8a hb8a hown8a hnew8a hFl8 hmy8 har8 hd8 hF8 hbb8 hs8 hown8 hlen HSD HBB8
              go_wp2_with fail
              go_region_law (first
                | (refine step_append_gen rfl _ _ 40 rfl w.heap.size 5 i0 (.int .u8 0) Try.underlying40 hi hz0 1 1 (by omega) hz1 hz2 rfl (.slice qa (mayOf V A).length ca) (mayOf V A).length ((mayOf V A).map B) (by simp [Act.eval]) (unhide HOW) ⟨w8.heap.size, 0, none⟩ 1 [B o.v] (by simp [Act.eval]) rfl (unhide HNE) (oneCell_B [o.v]) (by unfold maxLen; omega) (by omega) (unhide HBS) ?_; intro v9 w9 ho9 hg9 hvo9; obtain ⟨⟨q9, f9, hb9, q, c, e9⟩, hn9⟩ := unhide HAPP v9 w9 ho9 hg9 hvo9; subst e9; obtain ⟨x1, x3⟩ := unhide HSE _ hb9; have HN := hide hn9; clear ho9 hg9 hvo9 hn9 hb9))
              all_goals
                go_wp2
                go_roundw
                case rel => exact ⟨k + 1, _, F8, _, by omega, by omega, by go_num, HN⟩
                case measure => simp [intOf]; omega
            · obtain ⟨e1, e2⟩ := wet_nowrite (n := (DK.new 8).n) (K := K) (W := wOf V) (T := s.turns) (a := o.at_) (b := fullS o.v false) (by show o.at_ < 0 ∨ ((8 : Nat) : Int) ≤ o.at_; omega)
              rw [e2] at hd8
              rw [e1] at hwe
              rw [hwe]
              have HN : Hid (DR F8 w8 (.pointer (some da)) (wet (DK.new 8).n K (wOf V) s.turns) ∧ ArrH (foot F8 y cur) w8 x 41 8 K ∧ MayAt F8 w8 y 41 5 w.heap.size cur (mayOf V) ∧ (∀ b, F8 b → w.heap.size ≤ b) ∧ Below w.heap.size w w8 ∧ V.length ≤ k + 1) := ⟨hd8, har8, hmy8, hF8, hbb8, by have := unhide HWL; omega⟩
              clear hwe e1 e2 hd8 har8 hmy8 hF8 hbb8 hs8 hin HWE hlen
              go_wp2
              go_roundw
              case rel => exact ⟨k + 1, V, F8, cur, by omega, by omega, by go_num, HN⟩
              case measure => simp [intOf]; omega
          · have t0 : (m[k].kind == 0) = false := by rw [beq_eq_false_iff_ne]; exact hk0
            have hdw : Below wr.heap.size wr wr.drew := (Below.refl _ _).drew
            have HN : Hid (DR F6 wr.drew (.pointer (some da)) (wet (DK.new 8).n K (wOf V) s.turns) ∧ ArrH (foot F6 y cur) wr.drew x 41 8 K ∧ MayAt F6 wr.drew y 41 5 w.heap.size cur (mayOf V) ∧ (∀ b, F6 b → w.heap.size ≤ b) ∧ Below w.heap.size w wr.drew ∧ V.length ≤ k + 1) := ⟨C.stays hdr hdw.size (fun b hb => hdw.block b (C.lt hdr b hb)), har.below hdw, hmy.below hdw, hF6, hbel.drew, by omega⟩
            clear hdw
            clear hS hdr har hmy hF6 hbel hWl hcells hk0
            generalize m[k] = o at *
            go_wp2_with fail
            go_region
            go_wp2
            go_roundw
            case rel => exact ⟨k + 1, V, F6, cur, by omega, by omega, by go_num, HN⟩
            case measure => simp [intOf]; omega
        · -- behind the writes
          obtain ⟨hdr, har, hmy, hF6, hbel, hWl⟩ := hS.out
          have HCR := hide (C.crash F6 _ _ _ ks wr hdr ((unhide HKS).below hbel) (fun b off n c e hn hf => by
            have := hF6 b hf
            have hlt : b < w.heap.size := by
              obtain ⟨j0, hj0⟩ : ∃ j, j < ks.length := ⟨0, by simp only [Value.slice.injEq] at e; omega⟩
              obtain ⟨kb, ko, kc', e1, _, e2⟩ := (unhide HKS).at j0 hj0
              rw [e1] at e
              simp only [Value.slice.injEq, Option.some.injEq, Addr.mk.injEq] at e
              obtain ⟨⟨rfl, _⟩, _⟩ := e
              exact World.block_lt_of_cell? w _ e2
            omega) (by show (wOf V).length ≤ _; rw [length_wOf]; omega))
          have HAR := hide har
          have HMY := hide hmy
          have HF6 := hide hF6
          have HBE := hide hbel
          have hout : ¬ ((k : Int) < m.length) ∨ ((k : Int) < m.length ∧ ¬ (k : Int) < 60) := by omega
          have HVL : Hid (V.length ≤ 60) := by unfold Hid; omega
          clear hS hdr har hmy hF6 hbel hWl hgo hk60
          rcases hout with h1 | ⟨h1, h2⟩
          all_goals
            go_wp2_with fail
            refine Calls.mono (unhide HCR) ?_
            rintro e w8 ⟨rfl, F8, hd8, hmv8⟩
            have hF8 : ∀ b, F8 b → w.heap.size ≤ b := fun b hb => by
              rcases hmv8.sub b hb with h | h
              · exact unhide HF6 b h
              · have := (unhide HBE).size; omega
            have HB8 := hide ((unhide HBE).trans (hmv8.keep.below (unhide HBE).size (unhide HF6)))
            have HA8 := hide ((unhide HAR).moves (foot_moves hmv8))
            have HM8 := hide ((unhide HMY).moves hmv8)
            have HST := hide (C.start F8 _ _ w8 hd8)
            rw [wet_fell] at HST
            have HF8 := hide hF8
            clear HCR hd8 hmv8 hF8 HAR HMY HBE HF6
            go_wp2_with fail
            refine Calls.mono (unhide HST) ?_
            rintro e w11 ⟨rfl, F11, hd11, hmv11⟩
            have HA11 := hide ((unhide HA8).moves (foot_moves hmv11))
            have HM11 := hide ((unhide HM8).moves hmv11)
            have HB11 := hide ((unhide HB8).trans (hmv11.keep.below (unhide HB8).size (unhide HF8)))
            have HD11 := hide hd11
            have HOR := hide (fun j => keeps_or ks K V j)
            generalize keepSome ks K 0 (wOf V) = R at *
            clear HST hd11 hmv11 HA8 HM8 HB8 HF8
            go_wp2_with fail
            -- what is shown at last
            go_loopw [14] (fun i wr => ∃ k : Nat, k ≤ 8 ∧ i = .int .i64 k ∧ Hid (DR F11 wr (.pointer (some da)) ⟨(DK.new 8).n, R, [], 0, false, s.turns, 0⟩ ∧ ArrH (foot F11 y cur) wr x 41 8 K ∧ MayAt F11 wr y 41 5 w.heap.size cur (mayOf V) ∧ Below w.heap.size w wr)) (fun i _ => 8 - (intOf i).toNat)
            case atStart => exact ⟨0, by omega, rfl, unhide HD11, unhide HA11, unhide HM11, unhide HB11⟩
            case round =>
              clear HD11 HA11 HM11 HB11
              obtain ⟨j, hj8, rfl, hS⟩ := hrel
              by_cases hlt3 : (j : Int) < 8
              · obtain ⟨hdr, har, hmy, hbel⟩ := hS.out
                obtain ⟨e1, e2⟩ := read_up (s := ⟨(DK.new 8).n, R, [], 0, false, s.turns, 0⟩) rfl rfl (a := j) hlt3
                have HRD := hide (C.read F11 _ _ (j : Int) wr hdr (by show (0 : Nat) ≤ _; omega))
                rw [e1, e2] at HRD
                have HDR := hide hdr
                have HAR := hide har
                have HMY := hide hmy
                have HBE := hide hbel
                clear hS hdr har hmy hbel e1 e2
                go_wp2_with fail
                refine Calls.mono (unhide HRD) ?_
                rintro e w12 ⟨t, rfl, hm12, hb12⟩
                have har12 := (unhide HAR).below hb12
                have hmy12 := (unhide HMY).below hb12
                obtain ⟨u, q1, _, hu⟩ := har12.at j (by omega)
                have HBY := hide (bytes_any t u _ _ w12 hm12.row hu.1)
                have hd12 := C.stays (unhide HDR) hb12.size (fun b hb => hb12.block b (C.lt (unhide HDR) b hb))
                obtain ⟨va, hcv, v1, _, hown12, qa, ca, hva⟩ := hmy12.at j (by omega)
                have HAL : Hid (DR F11 w12 (.pointer (some da)) ⟨(DK.new 8).n, R, [], 0, false, s.turns, 0⟩ ∧ ArrH (foot F11 y cur) w12 x 41 8 K ∧ MayAt F11 w12 y 41 5 w.heap.size cur (mayOf V) ∧ Below w.heap.size w w12) := ⟨hd12, har12, hmy12, (unhide HBE).trans (hb12.mono (unhide HBE).size)⟩
                have HT := hide hm12.row
                have HOWN := hide hown12
                subst hva
                have hyl := hmy12.lt
                have hxl := har12.lt
                have HFI : Hid ((R j == K j) = true ∨ ∃ v ∈ mayOf V j, R j = fullS v false) := by
                  rcases unhide HOR j with h | ⟨v, h3, h4⟩
                  · left; rw [h]; simp
                  · exact Or.inr ⟨v, h3, h4⟩
                obtain ⟨tp, tc, tl, rfl, _⟩ := hm12.row.shape
                obtain ⟨up, uc, ul, rfl, _⟩ := hu.1.shape
                clear har12 hmy12 hu hm12 hb12 hd12 hown12 HRD HDR HAR HMY HBE hcv
                generalize hE : (R j == K j) = E0 at *
                go_wp2_with fail
                refine Calls.mono (unhide HBY) ?_
                rintro e w13 ⟨rfl, rfl⟩
                have hcells : Hid (∀ i (hi : i < (mayOf V j).length), ∃ h2 c, Value.slice qa (mayOf V j).length ca = .slice (some ⟨h2, 0, none⟩) (mayOf V j).length c ∧ (mayOf V j).length ≤ c ∧ h2 < w13.heap.size ∧ w13.cell? ⟨h2, i, none⟩ = some (B (mayOf V j)[i])) := fun i hi => by
                  rcases (unhide HOWN).2 with ⟨_, h0⟩ | ⟨h2, cap2, cur2, e2, _, hh, hnc, _⟩
                  · omega
                  · refine ⟨h2, cap2, e2, hnc, (Array.getElem?_eq_some_iff.1 hh).1, ?_⟩
                    have hc := (unhide HOWN).cells (g := h2) (by rw [e2]; rfl)
                    have := hc i (B (mayOf V j)[i]) (by rw [List.getElem?_map, List.getElem?_eq_getElem hi]; rfl)
                    rw [Addr.add_lit, Nat.zero_add] at this
                    exact this
                have hlM : (mayOf V j).length ≤ 60 := by
                  unfold mayOf
                  rw [List.length_map]
                  have := List.length_filter_le (fun p => p.1 == j) V
                  have := unhide HVL
                  omega
                have HLM := hide hlM
                obtain ⟨M, hM⟩ : ∃ M, M = mayOf V j := ⟨_, rfl⟩
                rw [← hM] at hcells HLM HFI v1
                have hlI : (M.length : Int) ≤ 60 := by have := unhide HLM; omega
                clear HBY q1 hlM hM HOWN
                go_wp2_with fail
                -- those that were written since
                go_loopw [17, 18] (fun ok i wr => ∃ k : Nat, k ≤ M.length ∧ i = .int .i64 k ∧ ok = .bool (E0 || (M.take k).any (fun v => R j == fullS v false)) ∧ Hid (Below w13.heap.size w13 wr)) (fun _ i _ => M.length - (intOf i).toNat)
                case atStart => exact ⟨0, by omega, rfl, by simp, Below.refl _ _⟩
                case round =>
                  obtain ⟨k2, hk2, rfl, rfl, hB⟩ := hrel
                  have v1' := (hB.out.cell (p := ⟨y, j, none⟩) hyl).trans v1
                  by_cases hlt4 : k2 < M.length
                  · obtain ⟨h2, c2, es2, hc2, hh2, hcell2⟩ := unhide hcells k2 hlt4
                    simp only [Value.slice.injEq, true_and] at es2
                    obtain ⟨rfl, rfl⟩ := es2
                    have d2 := (hB.out.cell (p := ⟨h2, k2, none⟩) hh2).trans hcell2
                    have hlt4I : (k2 : Int) < M.length := by omega
                    have hnext : (E0 || (M.take (k2 + 1)).any (fun v => R j == fullS v false)) = ((E0 || (M.take k2).any (fun v => R j == fullS v false)) || (R j == fullS M[k2] false)) := by
                      rw [List.take_succ_eq_append_getElem hlt4, List.any_append, Bool.or_assoc]
                      simp
                    have HNX := hide hnext
                    have HFU := hide (full_any M[k2] false wr)
                    have HTR := hide ((unhide HT).below hB.out)
                    have HBB := hB
                    have HLT := hide hlt4
                    clear hB hnext hcell2
                    unfold B at d2
                    generalize M[k2] = v2 at *
                    generalize (E0 || (M.take k2).any (fun v => R j == fullS v false)) = OK at *
                    cases OK with
                    | true =>
                      have HN : Hid ((E0 || (M.take (k2 + 1)).any (fun v => R j == fullS v false)) = true) := by unfold Hid; rw [unhide HNX]; rfl
                      clear HNX HFU HTR d2
                      go_wp2
                      go_roundw
                      case rel => exact ⟨k2 + 1, by omega, by go_num, by rw [unhide HN], HBB⟩
                      case measure => simp [intOf]; have := unhide HLT; omega
                    | false =>
                      go_wp2_with fail
                      refine Calls.mono (unhide HFU) ?_
                      rintro e w15 ⟨t2, rfl, hm15, hb15⟩
                      have HB2 := hide (bytes_any _ t2 _ _ w15 ((unhide HTR).below hb15) hm15.row)
                      have HBC := hide ((unhide HBB).trans (hb15.mono (unhide HBB).size))
                      have HN : Hid ((E0 || (M.take (k2 + 1)).any (fun v => R j == fullS v false)) = (R j == fullS v2 false)) := by unfold Hid; rw [unhide HNX]; rfl
                      obtain ⟨t2p, t2c, t2l, rfl, _⟩ := hm15.row.shape
                      clear HNX HFU HTR d2 hm15 hb15 HBB v1'
                      generalize (R j == fullS v2 false) = QQ at *
                      go_wp2_with fail
                      refine Calls.mono (unhide HB2) ?_
                      rintro e w16 ⟨rfl, rfl⟩
                      clear HB2
                      go_wp2
                      go_roundw
                      case rel => exact ⟨k2 + 1, by omega, by go_num, by rw [unhide HN], HBC⟩
                      case measure => simp [intOf]; have := unhide HLT; omega
                  · have hkM : k2 = M.length := by omega
                    subst hkM
                    have hok : (E0 || (M.take M.length).any (fun v => R j == fullS v false)) = true := by
                      rw [List.take_of_length_le (Nat.le_refl _)]
                      rcases unhide HFI with h | ⟨v, hv, hr⟩
                      · rw [h]; rfl
                      · rw [Bool.or_eq_true]
                        right
                        rw [List.any_eq_true]
                        exact ⟨v, hv, by rw [hr]; simp⟩
                    rw [hok]
                    have hb := hB.out
                    have HNN : Hid (DR F11 wr (.pointer (some da)) ⟨(DK.new 8).n, R, [], 0, false, s.turns, 0⟩ ∧ ArrH (foot F11 y cur) wr x 41 8 K ∧ MayAt F11 wr y 41 5 w.heap.size cur (mayOf V) ∧ Below w.heap.size w wr) := by
                      obtain ⟨a1, a2, a3, a4⟩ := unhide HAL
                      exact ⟨C.stays a1 hb.size (fun b hb' => hb.block b (C.lt a1 b hb')), a2.below hb, a3.below hb, a4.trans (hb.mono a4.size)⟩
                    have hltM : ¬ (M.length : Int) < M.length := by omega
                    clear hok hB hb HAL hcells HFI HT hk2 hlt4
                    go_wp2
                    go_roundw
                    case rel => exact ⟨j + 1, by omega, by go_num, HNN⟩
                    case measure => simp [intOf]; omega
              · have HBE := hide hS.out.2.2.2
                clear hS
                go_wp2
                go_ret
                exact ⟨rfl, unhide HBE⟩
end
end Go.Proofs.Ytkekikfiijbjmaa
