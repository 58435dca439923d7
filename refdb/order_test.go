package refdb_test

import (
	"slices"
	"testing"

	"stillroom/api"
)

// P12.3

// TestOrderLeast: of those that may come the least is told first, each time.
func TestOrderLeast(t *testing.T) {
	orders(t, graph(t, []api.Info{info("c"), info("a"), info("b")}), []string{"a", "b", "c"})
	orders(t, graph(t, []api.Info{info("b"), info("a", "c"), info("c")}), []string{"b", "c", "a"})
	orders(t, graph(t, []api.Info{info("a", "d"), info("b"), info("c", "b"), info("d", "b"), info("e")}), []string{"b", "c", "d", "a", "e"})
	// What becomes ready comes ahead of greater ones that were ready before, and
	// behind lesser ones.
	orders(t, graph(t, []api.Info{info("m", "a"), info("a"), info("z"), info("b"), info("c", "m")}), []string{"a", "b", "m", "c", "z"})
	orders(t, graph(t, []api.Info{info("1", "9"), info("2", "8"), info("3", "7"), info("7"), info("8"), info("9")}), []string{"7", "3", "8", "2", "9", "1"})
	// By levels it would be another order: x waits for y alone.
	orders(t, graph(t, []api.Info{info("x", "y"), info("y"), info("z"), info("y2", "y")}), []string{"y", "x", "y2", "z"})
	// Texts are compared by bytes.
	orders(t, graph(t, []api.Info{info("10"), info("9"), info("a"), info("B"), info(""), info("\xff"), info("\u00e4"), info("a "), info("a\x00")}),
		[]string{"", "10", "9", "B", "a", "a\x00", "a ", "\u00e4", "\xff"})
}

// TestOrderWaitsForAll: a path is told behind all that it refers to, not behind the
// first of them.
func TestOrderWaitsForAll(t *testing.T) {
	orders(t, graph(t, []api.Info{info("a", "c", "d", "b"), info("b"), info("c"), info("d")}), []string{"b", "c", "d", "a"})
	orders(t, graph(t, []api.Info{info("a", "y", "z"), info("b", "y"), info("y"), info("z")}), []string{"y", "b", "z", "a"})
	l := star(4096)
	all := pathsOf(l)
	orders(t, graph(t, l), append(slices.Clone(all[1:]), all[0]))
	orders(t, graph(t, sun(4096)), all)
	l = ladder(2048)
	var want []string
	for i := 2046; i >= 0; i-- {
		want = append(want, name(2*i), name(2*i+1))
	}
	orders(t, graph(t, l), append([]string{name(4094), name(4095)}, want...))
}

// TestOrderRounds: a path that reaches itself by others, wherever that is.
func TestOrderRounds(t *testing.T) {
	goesRound(t, graph(t, []api.Info{info("a", "b"), info("b", "a")}))
	goesRound(t, graph(t, []api.Info{info("a", "a", "b"), info("b", "b", "a")}))
	goesRound(t, graph(t, []api.Info{info("a", "b", "b"), info("b", "a", "a")}))
	goesRound(t, graph(t, []api.Info{info("", " "), info(" ", "")}))
	for n := 2; n < 50; n++ {
		goesRound(t, graph(t, round(n)))
		// Beneath others, above others, and beside others.
		l := append(round(n), info("over", name(0)), info("far"))
		goesRound(t, graph(t, l))
		l = append(round(n), info("a"))
		l[0].Refs = append(l[0].Refs, "a")
		goesRound(t, graph(t, l))
		goesRound(t, graph(t, append(round(n), info("z", "a"), info("a"), info("b", "z"))))
	}
	goesRound(t, graph(t, round(4096)))
	l := chain(4096)
	l[4095].Refs = []string{name(4094)}
	goesRound(t, graph(t, l))
	// Two rounds with one path of both.
	goesRound(t, graph(t, []api.Info{info("a", "b"), info("b", "a", "c"), info("c", "b")}))
}

// TestOrderNoRounds: two ways to one path are no round, nor is a path that refers
// to itself.
func TestOrderNoRounds(t *testing.T) {
	orders(t, graph(t, []api.Info{info("a", "b", "c"), info("b", "d"), info("c", "d", "b"), info("d", "d")}), []string{"d", "b", "c", "a"})
	orders(t, graph(t, []api.Info{info("a", "a"), info("b", "b", "b"), info("c", "c", "a")}), []string{"a", "b", "c"})
}

// TestOrderOfInfos: in whatever order the infos and their references come, the same
// is told.
func TestOrderOfInfos(t *testing.T) {
	r := noise(3)
	for _, l := range [][]api.Info{example(), chain(30), star(30), sun(30), ladder(15), round(9), {info("b"), info("a", "c"), info("c")}} {
		want := graph(t, l)
		order, e := want.Order()
		for range 20 {
			other := r.shuffled(l)
			g := graph(t, other)
			is(t, g, l)
			if got, e2 := g.Order(); e2 != e || !slices.Equal(got, order) {
				t.Errorf("Order of %s: %q, %v, want %q, %v", short(other), got, e2, order, e)
			}
		}
	}
}

// TestAgain: a graph is asked again and again, in whatever order, and tells the
// same.
func TestAgain(t *testing.T) {
	l := append(ladder(4), info("a", name(3)), info("b", "a", "b"))
	g := graph(t, l)
	for range 20 {
		is(t, g, l)
		is(t, graph(t, l), l)
	}
}

// TestAsPlain: graphs of all kinds against a plain reading of the chapter.
func TestAsPlain(t *testing.T) {
	r, orderly := noise(99), 0
	for range 600 {
		n := 1 + r.below(12)
		var texts []string
		for i := range n {
			texts = append(texts, name(i*7%1000))
		}
		var l []api.Info
		most, falling := 1+r.below(4), r.below(2) == 0
		for i, p := range texts {
			from := texts
			if falling { // references to lesser ones alone make no round
				from = texts[:i+1]
			}
			l = append(l, made(name(r.below(3)), p, r.some(from, most)...))
		}
		l = r.shuffled(l)
		if _, e := plainOrder(l); e == api.OK {
			orderly++
		}
		is(t, graph(t, l), l, r.some(texts, 3), r.some(texts, 3))
	}
	if orderly < 100 || orderly > 500 {
		t.Errorf("%d of them have an order", orderly)
	}
}
