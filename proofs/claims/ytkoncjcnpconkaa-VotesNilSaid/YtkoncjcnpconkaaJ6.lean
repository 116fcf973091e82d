/- J6: layer 13: contract of the document's Long. -/
import Derived.Test.YtkoncjcnpconkaaJ5
namespace Go.Proofs.Ytkoncjcnpconkaa
open Go.RowKit Go.V
set_option maxRecDepth 100000 in
set_option maxHeartbeats 4000000 in
theorem long13_any (l : List Vt) (vl : Value) (F : Nat → Prop) (w : World) (hl : Rd w F vl (wds vtD l)) :
    Calls Try.prog 10 #[vl] w fun e w' => e = .returned (.bool (longVs l)) ∧ w' = w := by
  obtain ⟨A, c, rfl, hc1, hc2⟩ := wds_shape hl
  obtain ⟨q, hq⟩ : ∃ q, q = longVs l := ⟨_, rfl⟩
  rw [← hq]
  have Hq := hid hq
  clear hq
  go_enter Try.func10, Try.ntmps10
  by_cases h40 : 40 < l.length
  · have hI : (40 : Int) < (l.length : Int) := by omega
    have Hr := hid (Hq.out.trans (longVs_t1 h40))
    go_wp2
    go_ret
    exact ⟨by rw [Hr.out]; rfl, rfl⟩
  have hI40 : ¬ (40 : Int) < (l.length : Int) := by omega
  go_wp2
  go_loopw [3] (fun iv wr => ∃ i : Nat, i ≤ l.length ∧ iv = .int .i64 i ∧ Hid (∀ m ∈ l.take i, longV m = false) ∧ wr = w) (fun i _ => l.length - (intOf i).toNat)
  case atStart => exact ⟨0, Nat.zero_le _, rfl, hid (fun m hm => by simp at hm), rfl⟩
  case round =>
    obtain ⟨i, hi, rfl, hall, rfl⟩ := hrel
    by_cases hlt : i < l.length
    · obtain ⟨f, hf⟩ : ∃ f, l[i]? = some f := ⟨_, List.getElem?_eq_getElem hlt⟩
      have hI : (i : Int) < (l.length : Int) := by omega
      have hin : IntKind.i64.wrap ((i : Int) + 1) = (i : Int) + 1 := IntWalk.i64_in _ (by omega)
      obtain ⟨g, off, cs, rfl, hg, hr, he⟩ := wd_el hl hf
      obtain ⟨ub, up, rfl, hub, hup⟩ := vt_open he
      obtain ⟨AB, cb, rfl⟩ := hub.shape
      obtain ⟨AP, cpp, rfl, _, _⟩ := hup.slShape
      have c36 : wr.cell? ⟨g, off + i * 38 + 36, none⟩ = some (.slice AB f.b.length cb) := hr 36 _ (vt_body f.hh _ _)
      have c37 : wr.cell? ⟨g, off + i * 38 + 37, none⟩ = some (.slice AP f.ps.length cpp) := hr 37 _ (vt_parts f.hh _ _)
      have Hm := hid (List.mem_of_getElem? hf)
      have Htk := hid (take_snocV hf)
      clear hf he hr
      by_cases h5 : 500 < f.b.length
      · have hI5 : (500 : Int) < (f.b.length : Int) := by omega
        have Hr := hid (Hq.out.trans (longVs_t2 Hm.out (longV_t (.inl h5))))
        go_wp2_with (first | refine wp_ixa 30 (.tmp 14) (.tmp 15) rfl rfl rfl rfl Try.underlying30 hlt sizeVt ?_)
        go_ret
        exact ⟨by rw [Hr.out]; rfl, rfl⟩
      have hI5 : ¬ (500 : Int) < (f.b.length : Int) := by omega
      by_cases h2 : 20 < f.ps.length
      · have hI2 : (20 : Int) < (f.ps.length : Int) := by omega
        have Hr := hid (Hq.out.trans (longVs_t2 Hm.out (longV_t (.inr (.inl h2)))))
        go_wp2_with (first | refine wp_ixa 30 (.tmp 14) (.tmp 15) rfl rfl rfl rfl Try.underlying30 hlt sizeVt ?_ | refine wp_ixag 30 (.tmp 22) (.tmp 23) rfl rfl rfl rfl Try.underlying30 hlt sizeVt ?_)
        go_ret
        exact ⟨by rw [Hr.out]; rfl, rfl⟩
      have hI2 : ¬ (20 : Int) < (f.ps.length : Int) := by omega
      go_wp2_with (first | refine wp_ixa 30 (.tmp 14) (.tmp 15) rfl rfl rfl rfl Try.underlying30 hlt sizeVt ?_ | refine wp_ixag 30 (.tmp 22) (.tmp 23) rfl rfl rfl rfl Try.underlying30 hlt sizeVt ?_)
      go_loopw [4] (fun kv wx => ∃ k : Nat, k ≤ f.ps.length ∧ kv = .int .i64 k ∧ Hid (∀ t ∈ f.ps.take k, t.length ≤ 300) ∧ wx = wr) (fun k _ => f.ps.length - (intOf k).toNat)
      case atStart => exact ⟨0, Nat.zero_le _, rfl, hid (fun m hm => by simp at hm), rfl⟩
      case round =>
        obtain ⟨k, hk, rfl, hps, rfl⟩ := hrel
        by_cases hkt : k < f.ps.length
        · obtain ⟨t, ht⟩ : ∃ t, f.ps[k]? = some t := ⟨_, List.getElem?_eq_getElem hkt⟩
          have hK : (k : Int) < (f.ps.length : Int) := by omega
          obtain ⟨G, o2, u, rfl, hG, hcu, hu⟩ := Rd.elem hup k (bys t) (by rw [List.getElem?_map, ht]; rfl)
          obtain ⟨A1, c1', rfl⟩ := hu.shape
          have Hmem := hid (List.mem_of_getElem? ht)
          have Htk2 := hid (take_snocT ht)
          clear ht
          by_cases h3 : 300 < t.length
          · have h3I : (300 : Int) < (t.length : Int) := by omega
            have Hr := hid (Hq.out.trans (longVs_t2 Hm.out (longV_t (.inr (.inr ⟨t, Hmem.out, h3⟩)))))
            go_wp2_with (first | refine wp_ixa 30 (.tmp 31) (.tmp 32) rfl rfl rfl rfl Try.underlying30 hlt sizeVt ?_ | refine wp_ixa 30 (.tmp 40) (.tmp 41) rfl rfl rfl rfl Try.underlying30 hlt sizeVt ?_)
            go_ret
            exact ⟨by rw [Hr.out]; rfl, rfl⟩
          · have h3I : ¬ (300 : Int) < (t.length : Int) := by omega
            go_wp2_with (first | refine wp_ixa 30 (.tmp 31) (.tmp 32) rfl rfl rfl rfl Try.underlying30 hlt sizeVt ?_ | refine wp_ixa 30 (.tmp 40) (.tmp 41) rfl rfl rfl rfl Try.underlying30 hlt sizeVt ?_)
            go_roundw
            case rel =>
              refine ⟨k + 1, by omega, by go_num, ?_, trivial⟩
              show ∀ t ∈ f.ps.take (k + 1), t.length ≤ 300
              rw [Htk2.out]
              intro x hx
              rw [List.mem_append] at hx
              rcases hx with hx | hx
              · exact hps.out x hx
              · simp at hx; subst hx; omega
            case measure => simp [intOf]; omega
        · have hk' : k = f.ps.length := by omega
          subst hk'
          have hK : ¬ (f.ps.length : Int) < (f.ps.length : Int) := by omega
          have Hn : Hid (∀ m ∈ l.take (i + 1), longV m = false) := by
            show ∀ m ∈ l.take (i + 1), longV m = false
            rw [Htk.out]
            intro x hx
            rw [List.mem_append] at hx
            rcases hx with hx | hx
            · exact hall.out x hx
            · simp at hx; subst hx; exact longV_f h5 h2 (by have := hps.out; rwa [List.take_length] at this)
          go_wp2_with (first | refine wp_ixa 30 (.tmp 31) (.tmp 32) rfl rfl rfl rfl Try.underlying30 hlt sizeVt ?_)
          go_roundw
          case rel => exact ⟨i + 1, by omega, by go_num, Hn, trivial⟩
          case measure => simp [intOf]; omega
    · have hi' : i = l.length := by omega
      subst hi'
      have hI : ¬ (l.length : Int) < (l.length : Int) := by omega
      have Hr := hid (Hq.out.trans (longVs_f h40 (by have := hall.out; rwa [List.take_length] at this)))
      clear hall
      go_wp2
      go_ret
      exact ⟨by rw [Hr.out]; rfl, rfl⟩
end Go.Proofs.Ytkoncjcnpconkaa
