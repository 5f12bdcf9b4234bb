/- ChangeClimb of the specification, by its contract. -/
import Derived.Test.YtkaiadgldppbiaaClimb
import Derived.Test.YtkaiadgldppbiaaBestS
import Derived.Test.YtkaiadgldppbiaaTwice
namespace Go.Proofs.Ytkaiadgldppbiaa
open Go.RowKit Go.Shelf

/-- The texts of a grid's letters are its texts. -/
theorem texts_flat {n m : Nat} {ss : List ByteArray} (h : IsGrid n m ss) : textsOf n m (pad (flat ss)) = ss := by
  rw [rows_eq n m (pad (flat ss)) (fun r q => (flat ss).getD (r * m + q) 0) (fun r hr q hq => ?_)]
  · exact grid_rule h
  · have hl : r * m + q < (flat ss).length := by rw [h.flen]; exact lt_of_parts hr hq
    rw [pad, List.getElem?_append_left hl, List.getD_eq_getElem?_getD, List.getElem?_eq_getElem hl]
    rfl
/-- A grid with a cell exchanged, in the words of the best exchange. -/
theorem exch_grid {n m : Nat} {ss : List ByteArray} {x : Wy} {b : UInt8} (hg : IsGrid n m ss) (he : (x, b) ∈ mirI m (pad (flat ss)) (List.finRange (n * m))) :
    cellN m x < n * m ∧ oth (lett m (pad (flat ss)) ((cellN m x / m : Nat) : Int) ((cellN m x % m : Nat) : Int)) = b ∧
    IsGrid n m (textsOf n m ((pad (flat ss)).set (cellN m x) b)) ∧ pad (flat (textsOf n m ((pad (flat ss)).set (cellN m x) b))) = (pad (flat ss)).set (cellN m x) b := by
  unfold mirI at he
  obtain ⟨y, _, hy⟩ := List.mem_map.1 he
  cases hy
  have hlt : isLet (oth ((pad (flat ss)).getD y.val 0)) = true := by
    refine isLet_oth _ ?_
    obtain ⟨b', e, hb'⟩ := hg.let_at y.isLt
    rw [lett_cell hg y.isLt, show lett m (pad (flat ss)) ((y.val / m : Nat) : Int) ((y.val % m : Nat) : Int) = (pad (flat ss)).getD y.val 0 from lett_place _] at e
    cases e
    exact hb'
  obtain ⟨h1, h2⟩ := put_grid hg y.isLt hlt
  rw [cellN_place]
  exact ⟨y.isLt, by rw [show lett m (pad (flat ss)) ((y.val / m : Nat) : Int) ((y.val % m : Nat) : Int) = (pad (flat ss)).getD y.val 0 from lett_place _], h1, h2⟩

set_option maxRecDepth 100000 in
set_option maxHeartbeats 2000000 in
theorem specChangeClimb_any (A : Option Addr) (c B : Nat) (ss : List ByteArray) (w : World) (h : Strs w B A ss) (hB : B ≤ w.heap.size) (hn : ss.length ≤ 1048576) (hs : ∀ s ∈ ss, s.size ≤ 1048576) :
    Calls Try.prog 14 #[.slice A ss.length c] w (SpecEnd climbG ss w) := by
  have HI := hid (specGridIn_any A c B ss w h hn hs)
  have HD := hid h
  clear h hs
  go_enter Try.func14, Try.ntmps14
  go_wp2_with fail
  refine HI.out.mono ?_
  rintro e w' ⟨ok, rfl, hok, d, rfl⟩
  have HO := hid hok
  clear hok
  have HBd := hid (below_drewN' (Below.refl w.heap.size w) d)
  have HDd := hid (HD.out.drewN d)
  have HBW := hid (show B ≤ (w.drewN d).heap.size from hB)
  obtain ⟨W, hW⟩ : ∃ W, w.drewN d = W := ⟨_, rfl⟩
  rw [hW] at HBd HDd HBW ⊢
  clear hW HI HD hB
  cases ok with
  | false =>
    go_wp2_with fail
    refine (l1None_any _).mono ?_
    rintro e w1 ⟨⟨A1, c1, rfl⟩, hb1⟩
    have HB1 := hid (HBd.out.trans (hb1.mono HBd.out.size))
    clear hb1
    go_wp2_with fail
    refine bodyPost_ret (results_tmp2 rfl _ _ _) rfl ?_
    exact ⟨HB1.out, .inr ⟨noGrid_of HO.out, A1, c1, rfl⟩⟩
  | true =>
    obtain ⟨n, m, hg⟩ := HO.out.1 rfl
    have hnl := hg.1
    have hn1 := hg.2.1
    have hn5 := hg.2.2.1
    obtain ⟨b, off, s0, rfl, hb, hk0, hc0⟩ := HDd.out.at_ (k := 0) (by omega)
    have hsl : ss.length ≤ 5 := by omega
    have hl0 : (0 : Int) < (ss.length : Int) := by omega
    have HG := hid hg
    have HG0 := hid (growS_new W W.heap.size (Nat.le_refl _))
    have HB := hid ((Below.refl W.heap.size W).alloc (Nat.le_refl _) (.cells #[] 9))
    have hnews : ∀ (j : Nat) (u : Value), (strsV ss)[j]? = some u → (W.alloc (.cells #[] 9)).cell? ((⟨b, off, none⟩ : Addr).add j) = some u := fun j u hj => by
      have hj' : j < ss.length := by have := (List.getElem?_eq_some_iff.1 hj).1; simpa [strsV] using this
      have e1 : (strsV ss)[j]? = some (.string ss[j]) := by simp [strsV, hj']
      rw [e1] at hj
      cases hj
      have := (HDd.out.below HB.out HBW.out).cell_ (List.getElem?_eq_getElem hj')
      have ha : (Addr.add ⟨b, off, none⟩ j : Addr) = ⟨b, off + j, none⟩ := by unfold Addr.add; split <;> simp_all
      rw [ha]; exact this
    have HN := hid hnews
    obtain ⟨i0, hi, hi0, hi1, hi2⟩ := info_parts Try.info_string
    have HII := hid hi
    have HLE := hid (l4Best_any (n := n) (m := m))
    have HNL := hid hnl
    have HSL := hid hsl
    clear hg hk0 hc0 hnews hi hb hnl
    go_wp2_with (at_builtin; refine wpList_append_own _ rfl _ _ 23 rfl W.heap.size 9 i0 (.string ByteArray.empty) 1 16 Try.underlying23 HII.out hi0 hi1 hi2 rfl (by decide) (.slice (some ⟨W.heap.size, 0, none⟩) 0 0) 0 [] rfl HG0.out ⟨b, off, none⟩ ss.length c (strsV ss) rfl (by simp [strsV]) HN.out ?c1 ?c2 ?c3 ?c4 ?_)
    case c1 => intro u hu; simp only [strsV, List.mem_map] at hu; obtain ⟨s, _, rfl⟩ := hu; rfl
    case c2 => unfold maxLen; omega
    case c3 => omega
    case c4 => simp
    intro v' w1 hown hgw _
    have HB1 := hid (HBd.out.trans ((HB.out.grown hgw (by simp) (fun k e => by cases e; exact Nat.le_refl _)).mono HBd.out.size))
    rcases hown.2 with ⟨_, h0⟩ | ⟨g, cap, cur, rfl, hlo, hgp, hnc, _, hcs, htake⟩
    · omega
    try rw [Nat.zero_add]
    have hrow : Row9 w1 g ss := ⟨cur, hgp, fun k t hk => by
      have hl := (List.getElem?_eq_some_iff.1 hk).1
      have e : (strsV ss)[k]? = some (.string t) := by simp [strsV, hk]
      rw [← htake, List.getElem?_take_of_lt (by omega)] at e
      rw [← Array.getElem?_toList, e]⟩
    have HS1 := hid (hrow.strs (B := w1.heap.size) hrow.lt)
    clear hown hgw htake hcs hgp hlo hnc hrow HG0 HN HII hi0 hi1 hi2 hsl hl0 HB
    have hp0 := pathsR_le (n := n) (m := m) (t := lett m (pad (flat ss))) hn5 HG.out.2.2.2.2.1
    have HP0 := hid (show 110 < ((111 : Nat) : Int) + pathsG n m (pad (flat ss)) by have := hp0.1; unfold pathsG; omega)
    clear hp0
    rw [HNL.out]
    go_wp2_with fail
    go_loopg [4] 111 (fun (k : Nat) (v : Value) (wr : World) => ∃ (ts : List ByteArray) (b' off' c' : Nat), v = .slice (some ⟨b', off', none⟩) n c' ∧ IsGrid n m ts ∧ Strs wr wr.heap.size (some ⟨b', off', none⟩) ts ∧
      climbN n m k (pad (flat ts)) = climbN n m 111 (pad (flat ss)) ∧ 110 < (k : Int) + pathsG n m (pad (flat ts)) ∧ Below w.heap.size w wr)
    case atStart => exact ⟨ss, g, 0, cap, rfl, HG.out, HS1.out, rfl, HP0.out, HB1.out⟩
    case round =>
      obtain ⟨ts, b', off', c', rfl, hgt, hst, hcl, hpk, hbel⟩ := hrel
      have KG := hid hgt
      have KS := hid hst
      have KC := hid hcl
      have KB := hid hbel
      have KO := hid (climb_or (n := n) (m := m) (ls := pad (flat ts)) hgt.2.1 hgt.2.2.1 hgt.2.2.2.2.1 gk hpk)
      have KBE := hid (l4Best_any (some ⟨b', off', none⟩) c' wr.heap.size n m ts wr hst (Nat.le_refl _) hgt)
      clear hgt hst hcl hpk hbel
      go_wp2_with fail
      refine KBE.out.mono ?_
      rintro e w2 ⟨rfl, hb2⟩
      have HB2 := hid (KB.out.trans (hb2.mono KB.out.size))
      have HS2 := hid ((KS.out.below hb2 (Nat.le_refl _)).more hb2.size)
      have KPA := hid (l3Paths_any (some ⟨b', off', none⟩) c' w2.heap.size n m ts w2 HS2.out (Nat.le_refl _) KG.out)
      have KEX := hid (fun W cc hB2 h hcc => l4Exchange_any b' off' c' w2.heap.size n m cc ts W h hB2 KG.out hcc)
      rw [KG.out.1] at KPA KEX
      clear hb2 KBE
      rcases KO.out with ⟨hb0, hs0⟩ | ⟨x, bt, y, hb0, hy, hyl, hs0⟩ | ⟨x, bt, y, hb0, hy, hyl, hmem, k', hk', hs0, hp'⟩
      · have KT := hid (show climbG n m (pad (flat ss)) = ts by unfold climbG; rw [← KC.out, hs0, texts_flat KG.out])
        have hcd : bcode m (bestR n m (pad (flat ts))).1 = -1 := by rw [hb0]; rfl
        rw [hcd]
        clear hs0 hb0 hcd
        generalize (bestR n m (pad (flat ts))).2 = y at *
        go_wp2_with fail
        refine bodyPost_ret (results_tmp2 rfl _ _ _) rfl ?_
        exact ⟨HB2.out, .inl ⟨n, m, some ⟨b', off', none⟩, c', HG.out, by rw [KT.out]; exact HS2.out, by rw [KT.out, KG.out.1]; rfl⟩⟩
      · have KT := hid (show climbG n m (pad (flat ss)) = ts by unfold climbG; rw [← KC.out, hs0, texts_flat KG.out])
        have hcd : bcode m (bestR n m (pad (flat ts))).1 = ((cellN m x : Nat) : Int) := by rw [hb0]; rfl
        have hy2 : (bestR n m (pad (flat ts))).2 = y := by rw [hb0]
        have HYL := hid (show y ≤ (pathsR n m (lett m (pad (flat ts)))).1 from hyl)
        rw [hcd, hy2]
        have hc0 : ¬ (((cellN m x : Nat) : Int) < 0) := by omega
        have hyp := HYL.out
        clear hs0 hb0 hcd hy2 hyl HYL
        generalize ((cellN m x : Nat) : Int) = cx at *
        generalize (pathsR n m (lett m (pad (flat ts)))).1 = pa at *
        go_wp2_with fail
        refine KPA.out.mono ?_
        rintro e w3 ⟨rfl, hb3⟩
        have HB3 := hid (HB2.out.trans (hb3.mono HB2.out.size))
        have HS3 := hid ((HS2.out.below hb3 (Nat.le_refl _)).more hb3.size)
        clear hb3
        go_wp2_with fail
        refine bodyPost_ret (results_tmp2 rfl _ _ _) rfl ?_
        exact ⟨HB3.out, .inl ⟨n, m, some ⟨b', off', none⟩, c', HG.out, by rw [KT.out]; exact HS3.out, by rw [KT.out, KG.out.1]; rfl⟩⟩
      · have hcd : bcode m (bestR n m (pad (flat ts))).1 = ((cellN m x : Nat) : Int) := by rw [hb0]; rfl
        have hy2 : (bestR n m (pad (flat ts))).2 = y := by rw [hb0]
        have HYL := hid (show (pathsR n m (lett m (pad (flat ts)))).1 < y from hyl)
        obtain ⟨e1, e2, e3, e4⟩ := exch_grid KG.out hmem
        have E3 := hid e3
        have E4 := hid e4
        have HK' := hid hk'
        have HCL := hid (hs0.symm.trans KC.out)
        have HP' := hid hp'
        have KE2 := hid (fun W hB2 h => KEX.out W (cellN m x) hB2 h e1)
        rw [e2] at KE2
        rw [hcd, hy2]
        have hc0 : ¬ (((cellN m x : Nat) : Int) < 0) := by omega
        have hyp := HYL.out
        clear hs0 hb0 hcd hy2 hyl HYL hmem e1 e2 e3 e4 hk' hp'
        generalize (pathsR n m (lett m (pad (flat ts)))).1 = pa at *
        obtain ⟨cx, hcx⟩ : ∃ cx, cellN m x = cx := ⟨_, rfl⟩
        rw [hcx] at hc0 KE2 E3 E4 HCL HP' ⊢
        clear hcx
        go_wp2_with fail
        refine KPA.out.mono ?_
        rintro e w3 ⟨rfl, hb3⟩
        have HB3 := hid (HB2.out.trans (hb3.mono HB2.out.size))
        have KE3 := hid (KE2.out w3 hb3.size (HS2.out.below hb3 (Nat.le_refl _)))
        clear hb3
        go_wp2_with fail
        refine KE3.out.mono ?_
        rintro e w4 ⟨⟨g', cap', rfl, hrow⟩, hb4⟩
        have HB4 := hid (HB3.out.trans (hb4.mono HB3.out.size))
        have HS4 := hid (hrow.strs (B := w4.heap.size) hrow.lt)
        clear hb4 hrow
        go_wp2_with fail
        go_roundg k'
        case measure => exact HK'.out
        case rel => exact ⟨_, g', 0, cap', rfl, E3.out, HS4.out, by rw [E4.out]; exact HCL.out, by rw [E4.out]; exact HP'.out, HB4.out⟩
end Go.Proofs.Ytkaiadgldppbiaa
