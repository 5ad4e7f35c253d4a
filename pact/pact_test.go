package pact_test

import (
	"math"
	"slices"
	"testing"

	"pact/api"
	"pact/pact"
)

var extremes = []int{math.MinInt, math.MinInt + 1, -1 << 32, -1, 1 << 31, 1 << 32, 1<<32 + 1, 1 << 62, math.MaxInt}

// wantCheck: Check and Start agree.
func wantCheck(t *testing.T, c api.Config, want api.Errno) {
	t.Helper()
	k, e := pact.Start(c)
	if pact.Check(c) != want || e != want || (k != nil) != (want == api.OK) {
		t.Errorf("of %+v: Check %d, Start %v, %d, want %d", c, pact.Check(c), k, e, want)
	}
}

// wantRange: a field may be from least to most.
func wantRange(t *testing.T, least, most int, with func(n int) api.Config) {
	t.Helper()
	for n := -3; n <= most+20; n++ {
		want := api.ErrArg
		if n >= least && n <= most {
			want = api.OK
		}
		wantCheck(t, with(n), want)
	}
	for _, n := range extremes {
		wantCheck(t, with(n), api.ErrArg)
	}
}

func TestP11Fields(t *testing.T) {
	c := api.Config{Nodes: 3, Variant: api.Abort, Ring: 4, PerSegment: 12, Patience: 3}
	wantRange(t, 1, 4, func(n int) api.Config { d := c; d.Nodes = n; return d })
	wantRange(t, 1, 3, func(n int) api.Config { d := c; d.Variant = n; return d })
	wantRange(t, 2, 6, func(n int) api.Config { d := c; d.Ring = n; return d })
	wantRange(t, 6, 16, func(n int) api.Config { d := c; d.PerSegment = n; return d })
	wantRange(t, 1, 8, func(n int) api.Config { d := c; d.Patience = n; return d })
	wantCheck(t, api.Config{}, api.ErrArg)
}

func TestP11Room(t *testing.T) {
	for ring := -2; ring <= 26; ring++ {
		for per := -2; per <= 26; per++ {
			want := api.ErrArg
			if ring >= 2 && ring <= 6 && per >= 2 && per <= 16 && ring*per >= 24 {
				want = api.OK
			}
			wantCheck(t, api.Config{Nodes: 1, Variant: api.Nothing, Ring: ring, PerSegment: per, Patience: 1}, want)
		}
	}
	for _, ring := range extremes { // some products wrap round
		for _, per := range extremes {
			wantCheck(t, api.Config{Nodes: 1, Variant: api.Nothing, Ring: ring, PerSegment: per, Patience: 1}, api.ErrArg)
		}
	}
}

func TestP12NothingHasHappened(t *testing.T) {
	for nodes := 1; nodes <= api.MaxNodes; nodes++ {
		for _, variant := range variants {
			k := start(t, conf(nodes, variant))
			wantView(t, viewOf(k), view{tables: make([][]api.Entry, nodes), costs: make([]api.Cost, nodes)})
			k.Round()
			wantView(t, viewOf(k), view{tables: make([][]api.Entry, nodes), costs: make([]api.Cost, nodes)})
		}
	}
}

// Every ring and segment that is right has room for transactions without end.
func TestP12EveryShape(t *testing.T) {
	for ring := api.MinRing; ring <= api.MaxRing; ring++ {
		for per := (api.MinRoom + ring - 1) / ring; per <= api.MaxSegment; per++ {
			for _, variant := range variants {
				k := start(t, api.Config{Nodes: 2, Variant: variant, Ring: ring, PerSegment: per, Patience: 1})
				for i := range 60 {
					if x := begin(t, k, 1, 0, 1); x != tx(1, 1, i+1) {
						t.Fatalf("Begin = %v", x)
					}
					deliverAll(t, k)
				}
			}
		}
	}
}

func TestP13Begin(t *testing.T) {
	for _, variant := range variants {
		k := start(t, conf(4, variant))
		forced := 0
		if variant == api.Commit {
			forced = 1
		}
		x, y := tx(2, 1, 1), tx(2, 1, 2)
		if z := begin(t, k, 2, 3, 0, 2); z != x {
			t.Errorf("Begin = %v", z)
		}
		wantNet(t, k, msg(api.Prepare, 2, 0, x), msg(api.Prepare, 2, 2, x), msg(api.Prepare, 2, 3, x))
		wantTrace(t, k, 0, sent(api.Prepare, 2, 0, x), sent(api.Prepare, 2, 2, x), sent(api.Prepare, 2, 3, x))
		wantTable(t, k, 2, coordinates(x, api.Preparing, 13))
		wantCosts(t, k, 2, forced, 0, 3)
		if z := begin(t, k, 2, 1); z != y {
			t.Errorf("Begin = %v", z)
		}
		if z := begin(t, k, 0, 1); z != tx(0, 1, 1) {
			t.Errorf("Begin = %v", z)
		}
		wantTable(t, k, 2, coordinates(x, api.Preparing, 13), coordinates(y, api.Preparing, 2))
		wantCosts(t, k, 2, 2*forced, 0, 4)
		wantCosts(t, k, 0, forced, 0, 1)
		wantTable(t, k, 3)
	}
}

func TestP13BeginWrong(t *testing.T) {
	k := start(t, conf(3, api.Commit))
	begin(t, k, 0, 1)
	was := viewOf(k)
	wrong := [][]int{nil, {}, {3}, {-1}, {0, 3}, {0, 0}, {0, 1, 0}, {2, 1, 1}, {0, 1, 2, 0}, {0, 1, 2, 3}, make([]int, 100000)}
	for _, n := range extremes {
		wrong = append(wrong, []int{n}, []int{0, n})
		for _, parts := range [][]int{nil, {0}, {7}} {
			if x, e := k.Begin(n, parts); x != (api.Txn{}) || e != api.ErrArg {
				t.Errorf("Begin(%d, %v) = %v, %d, want ErrArg", n, parts, x, e)
			}
		}
	}
	for _, parts := range wrong {
		for _, n := range []int{0, 1, 3} {
			if x, e := k.Begin(n, parts); x != (api.Txn{}) || e != api.ErrArg {
				t.Errorf("Begin(%d, %v) = %v, %d, want ErrArg", n, parts, x, e)
			}
		}
	}
	wantView(t, viewOf(k), was)
	if x := begin(t, k, 0, 1); x != tx(0, 1, 2) {
		t.Errorf("a Begin that was refused has taken a number: %v is the next", x)
	}
}

func TestP13FullTable(t *testing.T) {
	for _, variant := range variants {
		k := start(t, conf(2, variant))
		for range api.MaxOpen {
			begin(t, k, 0, 1)
		}
		was := viewOf(k)
		if x, e := k.Begin(0, []int{1}); x != (api.Txn{}) || e != api.ErrFull {
			t.Errorf("Begin of one too many = %v, %d, want ErrFull", x, e)
		}
		if _, e := k.Begin(0, []int{2}); e != api.ErrArg {
			t.Errorf("Begin of one too many with wrong parts = %d, want ErrArg", e)
		}
		wantView(t, viewOf(k), was)
		begin(t, k, 1, 1)
		deliverAll(t, k)
		if x := begin(t, k, 0, 1); x != tx(0, 1, 5) {
			t.Errorf("the next one is %v", x)
		}
	}
}

// use lets a node write records that nobody needs, while others hold the journal: two with each transaction of another node.
func use(t *testing.T, k *pact.Cluster, node, coordinator, times int) {
	t.Helper()
	for range times {
		x := begin(t, k, coordinator, node)
		isOfX := func(m api.Message) bool { return m.Txn == x }
		for range 4 { // Prepare, Yes, DoCommit, Ack
			if i := slices.IndexFunc(k.Net(), isOfX); i >= 0 {
				deliver(t, k, i)
			}
		}
	}
}

// One that stays prepared holds the journal; the rooms are 23, 21, .., and its own need is 2.
func TestP13FullJournal(t *testing.T) {
	for records := 1; records <= 23; records += 2 {
		k := start(t, conf(2, api.Nothing))
		begin(t, k, 1, 0)
		deliver(t, k, 0)
		k.Drop(0)
		use(t, k, 0, 1, (records-1)/2)
		if c, _ := k.Costs(0); c.Forced != records {
			if room := 24 - c.Forced; room >= 4 {
				t.Errorf("node 0 didn't vote, with room for %d", room)
			}
			break // no vote comes any more: the room is below 4
		}
		want := api.OK
		if 24-records < 5 {
			want = api.ErrFull
		}
		if _, e := k.Begin(0, []int{1}); e != want {
			t.Errorf("Begin behind %d records = %d, want %d", records, e, want)
		}
	}
}

func TestP13Refuse(t *testing.T) {
	k := start(t, conf(2, api.Nothing))
	for _, n := range append(extremes, 2) {
		for _, on := range []bool{true, false} {
			if e := k.Refuse(n, on); e != api.ErrArg {
				t.Errorf("Refuse(%d, %v) = %d, want ErrArg", n, on, e)
			}
		}
	}
	vote := func() int {
		t.Helper()
		x := begin(t, k, 0, 1)
		deliver(t, k, 0)
		m := k.Net()[0]
		if m.Txn != x {
			t.Fatalf("the vote is %+v", m)
		}
		deliverAll(t, k)
		return m.Kind
	}
	refuse := func(node int, on bool) {
		t.Helper()
		if e := k.Refuse(node, on); e != api.OK {
			t.Fatalf("Refuse(%d, %v) = %d", node, on, e)
		}
	}
	var votes []int
	votes = append(votes, vote())
	refuse(0, true)
	votes = append(votes, vote())
	refuse(1, true)
	votes = append(votes, vote(), vote())
	refuse(1, true)
	votes = append(votes, vote())
	refuse(1, false)
	votes = append(votes, vote())
	if want := []int{api.Yes, api.Yes, api.No, api.No, api.No, api.Yes}; !slices.Equal(votes, want) {
		t.Errorf("the votes are %v, want %v", votes, want)
	}
}

func TestP14Net(t *testing.T) {
	k := start(t, conf(4, api.Abort))
	x := begin(t, k, 0, 1, 2, 3)
	p := func(to int) api.Message { return msg(api.Prepare, 0, to, x) }
	wantNet(t, k, p(1), p(2), p(3))
	if e := k.Copy(1); e != api.OK {
		t.Errorf("Copy(1) = %d", e)
	}
	wantNet(t, k, p(1), p(2), p(3), p(2))
	if e := k.Drop(1); e != api.OK {
		t.Errorf("Drop(1) = %d", e)
	}
	wantNet(t, k, p(1), p(3), p(2))
	trace := k.Trace(0)
	wantTrace(t, k, 0, sent(api.Prepare, 0, 1, x), sent(api.Prepare, 0, 2, x), sent(api.Prepare, 0, 3, x))
	wantCosts(t, k, 0, 0, 0, 3)
	deliver(t, k, 1)
	wantNet(t, k, p(1), p(2), msg(api.Yes, 3, 0, x))
	wantTrace(t, k, len(trace), sent(api.Yes, 3, 0, x))
	deliver(t, k, 0)
	wantNet(t, k, p(2), msg(api.Yes, 3, 0, x), msg(api.Yes, 1, 0, x))
	for range 3 {
		k.Drop(0)
	}
	wantNet(t, k)
	wantTable(t, k, 0, coordinates(x, api.Preparing, 14))
}

func TestP14Wrong(t *testing.T) {
	k := start(t, conf(2, api.Abort))
	for _, n := range append(extremes, 0) {
		if a, b, c := k.Deliver(n), k.Drop(n), k.Copy(n); a != api.ErrArg || b != api.ErrArg || c != api.ErrArg {
			t.Errorf("of message %d, and there are none: %d, %d, %d", n, a, b, c)
		}
	}
	begin(t, k, 0, 0, 1)
	was := viewOf(k)
	for _, n := range append(extremes, 2, 3) {
		if a, b, c := k.Deliver(n), k.Drop(n), k.Copy(n); a != api.ErrArg || b != api.ErrArg || c != api.ErrArg {
			t.Errorf("of message %d, and there are two: %d, %d, %d", n, a, b, c)
		}
	}
	wantView(t, viewOf(k), was)
}

func TestP15TickWrong(t *testing.T) {
	k := start(t, conf(3, api.Abort))
	begin(t, k, 0, 0, 1)
	was := viewOf(k)
	for _, n := range append(extremes, 3) {
		if e := k.Tick(n); e != api.ErrArg {
			t.Errorf("Tick(%d) = %d, want ErrArg", n, e)
		}
	}
	wantView(t, viewOf(k), was)
}

// busy is a cluster in which all nodes have much to do at a Tick.
func busy(t *testing.T, variant int) *pact.Cluster {
	t.Helper()
	k := start(t, conf(4, variant))
	for node := range 4 {
		begin(t, k, node, 0, 1, 2, 3)
	}
	for i := 0; len(k.Net()) > 0; i++ {
		switch {
		case i%7 == 3:
			k.Drop(0)
		case i < 20:
			deliver(t, k, len(k.Net())-1)
		default:
			k.Drop(0)
		}
	}
	return k
}

func TestP15RoundIsATickOfEach(t *testing.T) {
	for _, variant := range variants {
		a, b := busy(t, variant), busy(t, variant)
		for range 6 {
			a.Round()
			for node := range 4 {
				tick(t, b, node)
			}
			if len(a.Net()) == 0 {
				t.Fatalf("nothing was sent in a Round")
			}
			wantView(t, viewOf(a), viewOf(b))
			dropAll(a)
			dropAll(b)
		}
	}
}

// A Round's answer doesn't hang on how the nodes run.
func TestP15RoundsAreAlike(t *testing.T) {
	for _, variant := range variants {
		want := busy(t, variant)
		want.Round()
		for range 200 {
			k := busy(t, variant)
			k.Round()
			wantView(t, viewOf(k), viewOf(want))
		}
	}
}

func TestP16Trace(t *testing.T) {
	k := start(t, conf(3, api.Nothing))
	k.Refuse(2, true)
	x := begin(t, k, 0, 1, 2)
	deliverAll(t, k)
	want := []api.Event{
		sent(api.Prepare, 0, 1, x), sent(api.Prepare, 0, 2, x), sent(api.Yes, 1, 0, x), sent(api.No, 2, 0, x),
		event(api.Told, 0, x, api.Aborted), sent(api.DoAbort, 0, 1, x), event(api.Applied, 1, x, api.Aborted), sent(api.Ack, 1, 0, x),
	}
	for from := range len(want) + 1 {
		wantTrace(t, k, from, want[from:]...)
	}
	for _, from := range extremes {
		if from < 0 {
			wantTrace(t, k, from, want...)
		} else {
			wantTrace(t, k, from)
		}
	}
	wantTrace(t, k, len(want)+1)
}

func TestP16TableIsSorted(t *testing.T) {
	k := start(t, conf(4, api.Nothing))
	var own, all []api.Entry
	for node := 3; node >= 0; node-- {
		begin(t, k, node, 1)
	}
	begin(t, k, 1, 0)
	begin(t, k, 1, 2, 0)
	for seq := 1; seq <= 3; seq++ {
		own = append(own, coordinates(tx(1, 1, seq), api.Preparing, []int{0, 2, 1, 5}[seq]))
	}
	for _, i := range []int{2, 0, 1, 0} { // by their coordinators: 1, 3, 0 (as 1 was taken out), 2
		deliver(t, k, i)
	}
	for node := range 4 {
		all = append(all, prepared(tx(node, 1, 1)))
	}
	wantTable(t, k, 1, append(own, all...)...)
}

// More than nine transactions: numbers, not texts, are sorted.
func TestP16TableIsSortedByNumber(t *testing.T) {
	k := start(t, conf(2, api.Abort))
	use(t, k, 1, 0, 8)
	var want, asked []api.Entry
	for seq := 9; seq <= 12; seq++ {
		begin(t, k, 0, 1)
		want = append(want, coordinates(tx(0, 1, seq), api.Preparing, 2))
		asked = append(asked, prepared(tx(0, 1, seq)))
	}
	wantTable(t, k, 0, want...)
	deliver(t, k, 0, 0, 0, 0)
	wantTable(t, k, 1, asked...)
}

func TestP16Wrong(t *testing.T) {
	k := start(t, conf(3, api.Nothing))
	begin(t, k, 0, 0, 1, 2)
	deliver(t, k, 0)
	for _, n := range append(extremes, 3) {
		if l, e := k.Table(n); l != nil || e != api.ErrArg {
			t.Errorf("Table(%d) = %v, %d, want nil, ErrArg", n, l, e)
		}
		if c, e := k.Costs(n); c != (api.Cost{}) || e != api.ErrArg {
			t.Errorf("Costs(%d) = %v, %d, want zeros, ErrArg", n, c, e)
		}
	}
}

// orders goes through all orders of delivery; done is called behind each.
func orders(t *testing.T, begun func() *pact.Cluster, done func(k *pact.Cluster)) {
	t.Helper()
	var chosen, choices []int
	for {
		k := begun()
		for i := 0; len(k.Net()) > 0; i++ {
			if i > 100 {
				t.Fatal("messages without end")
			}
			if i == len(chosen) {
				chosen, choices = append(chosen, 0), append(choices, len(k.Net()))
			}
			deliver(t, k, chosen[i])
		}
		done(k)
		for len(chosen) > 0 && chosen[len(chosen)-1] == choices[len(choices)-1]-1 {
			chosen, choices = chosen[:len(chosen)-1], choices[:len(choices)-1]
		}
		if len(chosen) == 0 {
			return
		}
		chosen[len(chosen)-1]++
	}
}

func TestP27Costs(t *testing.T) {
	for _, variant := range variants {
		for _, parts := range [][]int{{1}, {0}, {2, 1}, {0, 1}, {3, 1, 2}, {0, 3, 2}} {
			own := [3]int{1, 1, 2 * len(parts)}
			each := [3]int{2, 0, 2}
			if variant == api.Commit {
				own, each = [3]int{2, 0, 2 * len(parts)}, [3]int{1, 1, 1}
			}
			begun := func() *pact.Cluster {
				k := start(t, conf(4, variant))
				begin(t, k, 0, parts...)
				return k
			}
			orders(t, begun, func(k *pact.Cluster) {
				for node := range 4 {
					var want [3]int
					for c := range want {
						if node == 0 {
							want[c] += own[c]
						}
						if slices.Contains(parts, node) {
							want[c] += each[c]
						}
					}
					wantCosts(t, k, node, want[0], want[1], want[2])
					wantTable(t, k, node)
				}
			})
		}
	}
}

func TestP1WhatIsHandedIn(t *testing.T) {
	k := start(t, conf(4, api.Nothing))
	whole := []int{3, 0, 2, 9, 9, 9}
	was := slices.Clone(whole)
	x := begin(t, k, 1, whole[:3]...)
	k.Begin(1, whole[:4])
	if !slices.Equal(whole, was) {
		t.Errorf("the parts were written into: %v", whole)
	}
	for i := range whole {
		whole[i] = 1
	}
	tick(t, k, 1)
	dropAll(k)
	tick(t, k, 1)
	wantNet(t, k, msg(api.DoAbort, 1, 0, x), msg(api.DoAbort, 1, 2, x), msg(api.DoAbort, 1, 3, x))
}

// scribble writes into a list and into all of its spare room.
func scribble[E any](list []E, with E) {
	list = list[:cap(list)]
	for i := range list {
		list[i] = with
	}
}

func scribbleAll(k *pact.Cluster) {
	scribble(k.Net(), msg(9, 9, 9, tx(9, 9, 9)))
	for from := range 4 {
		scribble(k.Trace(from), event(9, 9, tx(9, 9, 9), 9))
	}
	for node := range 4 {
		l, _ := k.Table(node)
		scribble(l, coordinates(tx(9, 9, 9), 9, 9))
	}
}

// play makes some calls.
func play(k *pact.Cluster, i int) {
	if i%12 == 0 {
		k.Begin(i/12%4, []int{0, 1, 2, 3})
	}
	if i%5 == 0 {
		k.Round()
	}
	k.Copy(i % 3)
	k.Deliver(i % 2)
}

func TestP1WhatComesOutIsTheCallers(t *testing.T) {
	for _, variant := range variants {
		a, b := start(t, conf(4, variant)), start(t, conf(4, variant))
		var held []view
		for i := range 60 {
			play(a, i)
			scribbleAll(a)
			held = append(held, viewOf(a))
			play(b, i)
			wantView(t, held[i], viewOf(b))
		}
		again := start(t, conf(4, variant))
		for i := range 60 {
			play(again, i)
			wantView(t, held[i], viewOf(again))
		}
	}
}
