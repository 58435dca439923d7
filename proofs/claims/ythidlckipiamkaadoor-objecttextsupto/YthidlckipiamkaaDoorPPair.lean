/- My own work: what Parse and the document's own Parse tell of a text; where it is a digest it has signs alone. -/
import Derived.Test.YthidlckipiamkaaDoorXG
import Derived.Test.YthidlckipiamkaaDoorPSplit
namespace Go.Proofs.YthidlckipiamkaaDoor.S2
set_option maxRecDepth 20000
open Go.RowKit Math
theorem parse_pair2 (s : ByteArray) (w : World) (hT : Tab w) (hn : s.size ≤ 140737488351232) : ∃ (g : Nat → Int) (c : Int),
    (∀ wr, Below w.heap.size w wr → Calls Tryd.prog 21 #[.string s] wr fun e w' => e = .returned (.tuple #[.agg (arr g 32), .int .i64 c]) ∧ Below wr.heap.size wr w') ∧
    (∀ wr, Below w.heap.size w wr → Calls Tryd.prog 24 #[.string s] wr fun e w' => e = .returned (.tuple #[.agg (arr g 32), .int .i64 c]) ∧ Below wr.heap.size wr w') ∧ (c = 0 → signsB (bl s) = true ∧ s.size = 52) := by
  have hp := hT.pos
  have tab : ∀ {wr wx : World}, Below w.heap.size w wr → Below wr.heap.size wr wx → Tab wx := fun h1 h2 => hT.below (h1.trans (h2.mono h1.size)) hp
  obtain ⟨Q, l, hQ, hl⟩ : ∃ Q l, 5 * s.size = 8 * Q + l ∧ l < 8 := ⟨5 * s.size / 8, 5 * s.size % 8, by omega, by omega⟩
  obtain ⟨N, hN1, hN2⟩ : ∃ N, 5 * N ≤ 8 * Q + 4 ∧ 8 * Q ≤ 5 * N := ⟨(8 * Q + 4) / 5, by omega, by omega⟩
  rcases first_bad (fun k => ∃ v, v < 32 ∧ ∀ hk : k < s.size, sg v = (s[k].toNat : Int)) s.size with hall | ⟨m, hm, hbefore, hbad⟩
  · obtain ⟨vs, h32, hvs⟩ := choose_signs s s.size hall
    have hvs' : ∀ k, (hk : k < s.size) → sg (vs k) = (s[k].toNat : Int) := fun k hk => hvs k hk hk
    obtain ⟨h, hh⟩ : ∃ h, h = bitAt 5 (fun i => (vs i : Int)) := ⟨_, rfl⟩
    obtain ⟨f, hf⟩ : ∃ f : Nat → Int, ∀ j, f j = if j < Q then val h (8 * j) 8 else 0 := ⟨fun j => if j < Q then val h (8 * j) 8 else 0, fun _ => rfl⟩
    have hsame := same_iff s vs hvs' h32 h hh Q l N hQ hl f hf hN1 hN2
    have HR := fun (wr : World) => refDecode_core s vs s.size Q wr hn (Nat.le_refl _) (by omega) (by omega) (fun k hk _ => hvs' k hk) h32 (fun hc => absurd hc (by omega)) h hh f hf N hN1 hN2
    by_cases hok : l < 5 ∧ val h (8 * Q) l = 0
    · have hs1 := hsame.2 hok
      have hraw : row h 8 Q = (arr f Q).toList := by
        simp only [row, arr]
        apply List.map_congr_left
        intro j hj
        rw [List.mem_range] at hj
        simp [hf, hj]
      have D1 : ∀ {wr : World}, Below w.heap.size w wr → ∀ wx, Below wr.heap.size wr wx → Calls Tryd.prog 32 #[.string s] wx fun e w' => ∃ v, e = .returned (.tuple #[v, .int .i64 0]) ∧ Below wx.heap.size wx w' ∧ w'.ownsRow wx.heap.size 5 1 v Q (arr f Q).toList := fun hb wx hx => by
        refine (decode_any s vs wx (tab hb hx) (by omega) hvs' h32).mono ?_
        rintro e w' ⟨q', l', hq', hl', hb', h'⟩
        obtain rfl : q' = Q := by omega
        obtain rfl : l' = l := by omega
        rw [← hh] at h'
        rcases h' with ⟨_, _, v, he, hown⟩ | ⟨hno, _⟩
        · rw [hraw] at hown
          exact ⟨v, he, hb', hown⟩
        · exact absurd hok hno
      have D2 : ∀ wx : World, Calls Tryd.prog 36 #[.string s] wx fun e w' => e = .returned (.tuple #[.slice (some ⟨wx.heap.size, 0, none⟩) Q Q, .int .i64 0]) ∧ Below wx.heap.size wx w' ∧ w'.rowIs wx.heap.size 5 Q (fun j => .int .u8 (f j)) := fun wx => by
        refine (HR wx).mono ?_
        rintro e w' ⟨hb', h1 | ⟨_, _, he, hrow⟩ | ⟨_, hne, _⟩⟩
        · exact absurd h1.1 (by omega)
        · exact ⟨he, hb', hrow⟩
        · rw [hs1] at hne; cases hne
      by_cases hq : Q = 32
      · subst hq
        refine ⟨f, 0, fun wr hb => parse_ok s f wr (D1 hb), fun wr hb => refParse_ok s f wr (fun wx _ => D2 wx), fun _ => ⟨?_, by omega⟩⟩
        unfold signsB
        refine List.all_eq_true.2 fun x hx => ?_
        obtain ⟨k, hk, rfl⟩ := List.getElem_of_mem hx
        obtain ⟨v, hv, e⟩ := hall k (by rw [bl_len] at hk; exact hk)
        exact isSg_yes hv (e (by rw [bl_len] at hk; exact hk))
      · exact ⟨fun _ => 0, 10, fun wr hb => parse_long s Q _ wr hq (by omega) (D1 hb), fun wr hb => refParse_long s Q wr hq (fun wx _ => (D2 wx).mono fun e w' ⟨h1, h2, _⟩ => ⟨_, h1, h2⟩), fun h => absurd h (by decide)⟩
    · have hs1 : ((strOfNums (enc (bitAt 8 f) N)).toList == s.toList) = false := by
        cases hc : ((strOfNums (enc (bitAt 8 f) N)).toList == s.toList) with
        | true => exact absurd (hsame.1 hc) hok
        | false => rfl
      refine ⟨fun _ => 0, 10, fun wr hb => parse_bad s wr (fun wx hx => ?_), fun wr hb => refParse_bad s wr (fun wx hx => ?_), fun h => absurd h (by decide)⟩
      · refine (decode_any s vs wx (tab hb hx) (by omega) hvs' h32).mono ?_
        rintro e w' ⟨q', l', hq', hl', hb', h'⟩
        obtain rfl : q' = Q := by omega
        obtain rfl : l' = l := by omega
        rw [← hh] at h'
        rcases h' with ⟨h1, h2, _⟩ | ⟨_, he⟩
        · exact absurd ⟨h1, h2⟩ hok
        · exact ⟨he, hb'⟩
      · refine (HR wx).mono ?_
        rintro e w' ⟨hb', h1 | ⟨_, he1, _⟩ | ⟨_, _, he⟩⟩
        · exact absurd h1.1 (by omega)
        · rw [hs1] at he1; cases he1
        · exact ⟨he, hb'⟩
  · obtain ⟨vs, h32, hvs⟩ := choose_signs s m hbefore
    have hno : ∀ k, k < 32 → sg k ≠ (s[m].toNat : Int) := fun k hk e => hbad ⟨k, hk, fun _ => e⟩
    refine ⟨fun _ => 0, 10, fun wr hb => parse_bad s wr (fun wx hx => ?_), fun wr hb => refParse_bad s wr (fun wx hx => ?_), fun h => absurd h (by decide)⟩
    · exact decode_bad s vs m wx (tab hb hx) (by omega) hm (fun k hk hkm => ⟨h32 k, hvs k hk hkm⟩) hno
    · refine (refDecode_core s vs m Q wx hn (by omega) (by omega) (by omega) hvs h32 (fun _ => hno) _ rfl (fun j => if j < Q then val (bitAt 5 (fun i => (vs i : Int))) (8 * j) 8 else 0) (fun _ => rfl) N hN1 hN2).mono ?_
      rintro e w' ⟨hb', ⟨_, he⟩ | ⟨h1, _⟩ | ⟨h1, _⟩⟩
      · exact ⟨he, hb'⟩
      · exact absurd h1 (by omega)
      · exact absurd h1 (by omega)
end Go.Proofs.YthidlckipiamkaaDoor.S2
