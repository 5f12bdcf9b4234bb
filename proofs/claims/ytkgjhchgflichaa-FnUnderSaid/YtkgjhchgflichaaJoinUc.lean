/- GridUnder of the specification, by its contract. -/
import Derived.Test.YtkgjhchgflichaaSpecBeside
import Derived.Test.YtkgjhchgflichaaBunG
namespace Go.Proofs.Ytkgjhchgflichaa
open Go.RowKit Go.Shelf

theorem under_grid {n n' m : Nat} {ss tt : List ByteArray} (h : IsGrid n m ss) (h' : IsGrid n' m tt) : (∃ a b, IsGrid a b (ruleG (n + n') m (underF n m (flat ss) (flat tt)))) ↔ n + n' ≤ 5 := by
  constructor
  · rintro ⟨a, b, hg⟩
    have h0 := hg.1
    rw [ruleG_length] at h0
    have := hg.2.2.1
    omega
  · intro h5
    refine ⟨n + n', m, rule_grid (by have := h.2.1; omega) h5 h.2.2.2.1 h.2.2.2.2.1 fun r hr q hq => ?_⟩
    unfold underF
    split
    · exact flat_let h (by assumption) hq
    · exact flat_let h' (by omega) hq

/-- A list of texts read at an address, for an append of the whole. -/
theorem Strs.reads {w : World} {B : Nat} {A : Option Addr} {ss : List ByteArray} (h : Strs w B A ss) {b off : Nat} (hA : A = some ⟨b, off, none⟩) (j : Nat) (u : Value) (hj : (strsV ss)[j]? = some u) : w.cell? ((⟨b, off, none⟩ : Addr).add j) = some u := by
  subst hA
  have hj' : j < ss.length := by have := (List.getElem?_eq_some_iff.1 hj).1; simpa [strsV] using this
  have e1 : (strsV ss)[j]? = some (.string ss[j]) := by simp [strsV, hj']
  rw [e1] at hj
  cases hj
  have := h.cell_ (List.getElem?_eq_getElem hj')
  have ha : (Addr.add ⟨b, off, none⟩ j : Addr) = ⟨b, off + j, none⟩ := by unfold Addr.add; split <;> simp_all
  rw [ha]; exact this

set_option maxRecDepth 100000 in
set_option maxHeartbeats 8000000 in
theorem specGridUnder_yes (b off b' off' c c' B n m n' m' : Nat) (ss tt : List ByteArray) (s0 t0 : ByteArray) (w : World) (HD : Hid (Strs w B (some ⟨b, off, none⟩) ss)) (HD' : Hid (Strs w B (some ⟨b', off', none⟩) tt)) (hB : B ≤ w.heap.size) (HG : Hid (IsGrid n m ss)) (HG' : Hid (IsGrid n' m' tt))
    (H1 : Hid (∀ w', (∃ k, w' = w.drewN k) → Calls Try.prog 17 #[.slice (some ⟨b, off, none⟩) ss.length c] w' fun e w'' => e = .returned (.bool true) ∧ ∃ k, w'' = w.drewN k))
    (H2 : Hid (∀ w', (∃ k, w' = w.drewN k) → Calls Try.prog 17 #[.slice (some ⟨b', off', none⟩) tt.length c'] w' fun e w'' => e = .returned (.bool true) ∧ ∃ k, w'' = w.drewN k))
    (HBd : Hid (∀ k, Below w.heap.size w (w.drewN k))) (hmi : ((s0.size : Nat) : Int) = (m : Int)) (hmi' : ((t0.size : Nat) : Int) = (m' : Int))
    (HC0 : Hid (∀ w', (∃ k, w' = w.drewN k) → w'.cell? ⟨b, off, none⟩ = some (.string s0))) (HC0' : Hid (∀ w', (∃ k, w' = w.drewN k) → w'.cell? ⟨b', off', none⟩ = some (.string t0)))
    (nb : Bool) (hne : ((m : Int) != (m' : Int)) = nb) :
    Calls Try.prog 32 #[.slice (some ⟨b, off, none⟩) ss.length c, .slice (some ⟨b', off', none⟩) tt.length c'] w fun e w' => Below w.heap.size w w' ∧ ∃ A c res ok, e = .returned (.tuple #[.slice A res.length c, .bool ok]) ∧ UnderOut ss tt ok res ∧ Strs w' w'.heap.size A res := by
  have hl0n : 0 < ss.length := by have := HG.out.1; have := HG.out.2.1; omega
  have hl0n' : 0 < tt.length := by have := HG'.out.1; have := HG'.out.2.1; omega
  go_enter Try.func32, Try.ntmps32
  go_wp2_with fail
  refine wp_region_quiet (C := fun w' => ∃ k, w' = w.drewN k) (by kernel_rfl) (by kernel_rfl) ⟨1, rfl⟩ ?_
  quiet_step ((intro _; rfl))
  refine wpQuiet_callW (by go_simp) 17 #[.slice (some ⟨b, off, none⟩) ss.length c] (.bool true) (fun w _ => by go_simp) H1.out ?_
  quiet_step ((intro _; rfl))
  quiet_step ((intro _; rfl))
  quiet_step ((intro _; rfl))
  refine wpQuiet_callW (by go_simp) 17 #[.slice (some ⟨b', off', none⟩) tt.length c'] (.bool true) (fun w _ => by go_simp) H2.out ?_
  quiet_step ((intro _; rfl))
  quiet_step ((intro _; rfl))
  quiet_step ((intro _; rfl))
  quiet_step ((intro _; rfl))
  quiet_step ((intro _; rfl))
  refine wpQuiet_valueW (by go_simp) (.string s0) (fun w' hw => by have hc := HC0.out w' hw; go_simp) ?_
  quiet_step ((intro _; rfl))
  quiet_step ((intro _; rfl))
  quiet_step ((intro _; rfl))
  refine wpQuiet_valueW (by go_simp) (.string t0) (fun w' hw => by have hc := HC0'.out w' hw; go_simp) ?_
  quiet_step ((intro _; rfl))
  quiet_step ((intro _; rfl))
  quiet_step ((intro _; rfl))
  refine wpQuiet_nil ?_
  rintro w' ⟨k, rfl⟩
  cases nb with
  | true =>
    have HNo := hid (show ∀ a b a' b', ¬ UnderIn ss tt a b a' b' from fun a b a' b' hh => by
      obtain ⟨rfl, rfl⟩ := HG.out.uniq hh.1
      obtain ⟨rfl, rfl⟩ := HG'.out.uniq hh.2.1
      have h3 := hh.2.2.1
      rw [bne_iff_ne] at hne
      exact hne (by rw [h3]))
    clear hne
    go_wp2_with fail
    refine (l1None_any _).mono ?_
    rintro e w1 ⟨⟨A1, c1, rfl⟩, hb1⟩
    have HB1 := hid ((HBd.out k).trans hb1)
    clear hb1
    go_wp2_with fail
    refine bodyPost_ret (results_tmp2 rfl _ _ _) rfl ?_
    exact ⟨HB1.out, A1, c1, [], false, rfl, .inr ⟨HNo.out, rfl, rfl⟩, Strs.nil_ _ _ _⟩
  | false =>
    have hmm : m = m' := by rw [bne_eq_false_iff_eq] at hne; omega
    subst hmm
    have HUR := hid (under_rows HG.out HG'.out)
    have HBG := hid (under_grid HG.out HG'.out)
    have HSM := hid (fun h5 => under_same HG.out HG'.out h5)
    have hn5 : ss.length ≤ 5 := by have := HG.out.1; have := HG.out.2.2.1; omega
    have hn5' : tt.length ≤ 5 := by have := HG'.out.1; have := HG'.out.2.2.1; omega
    obtain ⟨wk, hwk⟩ : ∃ wk, w.drewN k = wk := ⟨_, rfl⟩
    have HBk := hid (show Below w.heap.size w wk by rw [← hwk]; exact HBd.out k)
    have HDk := hid (show Strs wk B (some ⟨b, off, none⟩) ss by rw [← hwk]; exact HD.out.drewN k)
    have HDk' := hid (show Strs wk B (some ⟨b', off', none⟩) tt by rw [← hwk]; exact HD'.out.drewN k)
    have hBk : B ≤ wk.heap.size := Nat.le_trans hB HBk.out.size
    rw [hwk]
    obtain ⟨i0, hi, hi0, hi1, hi2⟩ := info_parts Try.info_string
    have HI := hid hi
    have HG0 := hid (growS_new wk w.heap.size HBk.out.size)
    have HBa := hid (HBk.out.alloc HBk.out.size (.cells #[] 9))
    have HN := hid ((HDk.out.below ((Below.refl wk.heap.size wk).alloc (Nat.le_refl _) (.cells #[] 9)) hBk).reads rfl)
    clear hne hi hwk HC0 HC0' H1 H2
    go_wp2_with (at_builtin; refine wpList_append_own _ rfl _ _ 23 rfl w.heap.size 9 i0 (.string ByteArray.empty) 1 16 Try.underlying23 HI.out hi0 hi1 hi2 rfl (by decide) (.slice (some ⟨wk.heap.size, 0, none⟩) 0 0) 0 [] rfl HG0.out ⟨b, off, none⟩ ss.length c (strsV ss) rfl (by simp [strsV]) HN.out ?c1 ?c2 ?c3 ?c4 ?_)
    case c1 => intro u hu; simp only [strsV, List.mem_map] at hu; obtain ⟨s, _, rfl⟩ := hu; rfl
    case c2 => unfold maxLen; omega
    case c3 => omega
    case c4 => have := HBk.out.size; simp; omega
    intro v' w1 hown hgw _
    have HB1 := hid (HBa.out.grown hgw (by have := HBk.out.size; simp; omega) (fun k e => by cases e; exact HBk.out.size))
    have HO1 := hid (show w1.ownsRow w.heap.size 9 1 v' ss.length (strsV ss) from by simpa using hown)
    have HN' := hid ((HD'.out.below HB1.out hB).reads rfl)
    clear hown hgw
    go_wp2_with (at_builtin; refine wpList_append_own _ rfl _ _ 23 rfl w.heap.size 9 i0 (.string ByteArray.empty) 1 16 Try.underlying23 HI.out hi0 hi1 hi2 rfl (by decide) v' ss.length (strsV ss) rfl HO1.out ⟨b', off', none⟩ tt.length c' (strsV tt) rfl (by simp [strsV]) HN'.out ?c1 ?c2 ?c3 ?c4 ?_)
    case c1 => intro u hu; simp only [strsV, List.mem_map] at hu; obtain ⟨s, _, rfl⟩ := hu; rfl
    case c2 => unfold maxLen; omega
    case c3 => omega
    case c4 => exact HB1.out.size
    intro v2 w2 hown2 hgw2 _
    have HB2 := hid (HB1.out.grown hgw2 HB1.out.size (fun k e => (World.ownsRow.lt HO1.out k e).1))
    obtain ⟨A1, c1, rfl, hst⟩ := (show GrowS w2 w.heap.size v2 (ss ++ tt) from by
      unfold GrowS strsV
      rw [List.length_append, List.map_append]
      exact hown2).strs
    have HST := hid hst
    have HLD := hid (l1Done_any A1 c1 w2.heap.size _ w2 hst (by rw [List.length_append]; omega) (fun s hs => by
      rcases List.mem_append.1 hs with h | h
      · have := (HG.out.2.2.2.2.2 s h).1; have := HG.out.2.2.2.2.1; omega
      · have := (HG'.out.2.2.2.2.2 s h).1; have := HG.out.2.2.2.2.1; omega))
    rw [HUR.out] at HST HLD ⊢
    clear hown2 hgw2 hst HUR
    generalize ruleG (n + n') m (underF n m (flat ss) (flat tt)) = res at *
    go_wp2_with fail
    refine HLD.out.mono ?_
    rintro e w3 ⟨hb3, ⟨hyes, rfl⟩ | ⟨hno, A2, c2, rfl⟩⟩
    · have HB3 := hid (HB2.out.trans (hb3.mono HB2.out.size))
      have HS3 := hid ((HST.out.below hb3 (Nat.le_refl _)).more hb3.size)
      have HIn := hid (HBG.out.1 hyes)
      clear hb3 hyes
      go_wp2_with fail
      refine bodyPost_ret (results_tmp2 rfl _ _ _) rfl ?_
      exact ⟨HB3.out, A1, c1, res, true, rfl, .inl ⟨n, m, n', m, ⟨HG.out, HG'.out, rfl, HIn.out⟩, rfl, (HSM.out HIn.out).symm⟩, HS3.out⟩
    · have HB3 := hid (HB2.out.trans (hb3.mono HB2.out.size))
      have HNo := hid (show ∀ a b a' b', ¬ UnderIn ss tt a b a' b' from fun a b a' b' hh => by
        obtain ⟨rfl, rfl⟩ := HG.out.uniq hh.1
        obtain ⟨rfl, rfl⟩ := HG'.out.uniq hh.2.1
        exact hno (HBG.out.2 hh.2.2.2))
      clear hb3 hno
      go_wp2_with fail
      refine bodyPost_ret (results_tmp2 rfl _ _ _) rfl ?_
      exact ⟨HB3.out, A2, c2, [], false, rfl, .inr ⟨HNo.out, rfl, rfl⟩, Strs.nil_ _ _ _⟩

end Go.Proofs.Ytkgjhchgflichaa
