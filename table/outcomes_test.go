package table_test

import (
	"fmt"
	"math/rand"
	"slices"
	"strings"
	"testing"

	"sextant/api"
	"sextant/table"
	"sextant/value"
)

// P14.2, P14.3

func TestOutcomesModes(t *testing.T) {
	a := tableOf(t, `table R linear arg int reply (int, symbol) state list int start [] {
		row [] { x put 1 } gives { x (1, #ok) } next [1];
		row [] { me put 1 } gives { me (0, #no) } next [];
		row [] { me get 1 } gives { me (0, #no) } next [];
		row [1] { x put 1 } gives { x (1, #ok) } next [1, 1];
	}`)
	holds(t, a, "[]", "p put 1", "p (0, no) -> []; p (1, ok) -> [1]")
	holds(t, a, "[]", "x get 1", "x (0, no) -> []")
	holds(t, a, "[1]", "q put 1", "q (1, ok) -> [1, 1]")
	holds(t, a, "[]", "p put 2", "")
	holds(t, a, "[1, 1]", "p put 1", "")

	a = tableOf(t, `table I interval arg int reply int state int start 0 {
		row 0 { a f 1, b f 1, c g 1 } gives { c 7 } next 1;
		row 0 { a f 1, b f 1, c g 1 } gives { b 7, c 5 } next 1;
		row 0 { c g 1, b f 1, a f 1 } gives { a 5 } next 0;
		row 0 { a f 1, b g 1, c f 1 } gives { a 9, b 9, c 8 } next 0;
		row 0 { a f 1 } gives { a 5 } next 0;
		row 0 { a g 1, b g 1, c f 1 } gives { a 5 } next 0;
	}`)
	// The fewer answers first; then the earlier process, whatever its value.
	holds(t, a, "0", "p f 1; q f 1; r g 1", "p 5 -> 0; q 5 -> 0; r 7 -> 1; p 7, r 5 -> 1; q 7, r 5 -> 1; p 8, q 9, r 9 -> 0; p 9, q 8, r 9 -> 0")
	holds(t, a, "0", "p f 1; q g 1; r f 1", "p 5 -> 0; q 7 -> 1; r 5 -> 0; p 7, q 5 -> 1; q 5, r 7 -> 1; p 8, q 9, r 9 -> 0; p 9, q 9, r 8 -> 0")
	holds(t, a, "0", "p f 1; q g 1; r g 1", "q 5 -> 0; r 5 -> 0")
	holds(t, a, "0", "p f 1", "p 5 -> 0")
	holds(t, a, "0", "p g 1", "")
}

func TestOutcomesOrder(t *testing.T) {
	a := tableOf(t, `table S set arg int reply list int state set int start {} {
		row {} { a f 1, b f 1 } gives { b [2], a [10] } next {1};
		row {} { a f 1, b f 1 } gives { a [2], b [10] } next {};
		row {} { a f 1, b f 1 } gives { a [], b [1, 1] } next {};
		row {} { b f 1, a f 1 } gives { a [], b [1, 1] } next {};
		row {} { a f 1, b f 1 } gives { a [-1], b [-1] } next {};
		row {} { z f 1, y f 1 } gives { y [2], z [10] } next {2, 3};
	}`)
	holds(t, a, "{}", "p f 1; q f 1", strings.Join([]string{
		"p [], q [1, 1] -> {}",
		"p [-1], q [-1] -> {}",
		"p [2], q [10] -> {}", "p [2], q [10] -> {1}", "p [2], q [10] -> {2, 3}",
		"p [10], q [2] -> {}", "p [10], q [2] -> {1}", "p [10], q [2] -> {2, 3}",
		"p [1, 1], q [] -> {}",
	}, "; "))
}

// like answers a table with one row of so many like calls, each with its reply.
func like(t *testing.T, mode string, replies ...int) api.Auto {
	t.Helper()
	a := tableOf(t, "table L "+mode+" arg int reply int state int start 0 { }")
	a.Rows = []api.Row{likeRow(0, replies...)}
	return a
}

func likeRow(to int64, replies ...int) api.Row {
	row := api.Row{From: integer(0), To: integer(to)}
	for i, n := range replies {
		who := fmt.Sprint("w", i)
		row.Calls = append(row.Calls, api.RowCall{Who: who, Op: "f", Arg: integer(1)})
		row.Replies = append(row.Replies, api.RowReply{Who: who, Value: integer(int64(n))})
	}
	return row
}

// replies answers what each call of a class is answered.
func replies(o api.Outcome) []int {
	var l []int
	for _, a := range o.Answers {
		l = append(l, int(a.Value.Int))
	}
	return l
}

// TestWaysLimit: row by row, the last way that is looked at, and the first that is not. If a row's call at place i gives w[i], the way w comes to the least outcome of all.
func TestWaysLimit(t *testing.T) {
	all := modelWays(7)
	least := []int{0, 1, 2, 3, 4, 5, 6}
	class := procs(7, "f", integer(1))
	for _, x := range []struct {
		way    int
		looked bool
	}{{0, true}, {4000, true}, {api.MaxWays - 1, true}, {api.MaxWays, false}, {api.MaxWays + 1, false}, {5039, false}} {
		a := like(t, "set", all[x.way]...)
		got, errno := looked(t, a, integer(0), class)
		if errno != api.OK || len(got) != api.MaxOutcomes || slices.Equal(replies(got[0]), least) != x.looked {
			t.Errorf("%d: %d, %d, %v", x.way, errno, len(got), got[0])
		}
		// Each row has its own number of ways; those of rows of fewer calls are not counted.
		a.Rows = append([]api.Row{likeRow(1, 6, 5, 4, 3, 2, 1, 0), likeRow(2, 1)}, a.Rows...)
		got, errno = looked(t, a, integer(0), class)
		if errno != api.OK || slices.Equal(replies(got[0]), least) != x.looked || got[0].Next.Int == 2 {
			t.Errorf("%d, behind others: %d, %v", x.way, errno, got[0])
		}
	}
}

// TestWaysCounted: what is no way is not counted among the first ones.
func TestWaysCounted(t *testing.T) {
	a := like(t, "set", 1, 0, 0, 0, 0, 0, 0)
	if got, _ := looked(t, a, integer(0), procs(7, "f", integer(1))); len(got) != 6 {
		// The row's first call is given the class's last one behind 4320 others.
		t.Error(len(got), got)
	}
	// Two calls of their own at the ends of the row, and 720 ways for the six between.
	a = like(t, "set", 0, 0, 0, 0, 0, 0, 1, 0)
	a.Rows[0].Calls[0].Op, a.Rows[0].Calls[7].Arg = "g", integer(2)
	class := procs(8, "f", integer(1))
	class[7].Op, class[0].Arg = "g", integer(2)
	got, errno := table.Outcomes(a, integer(0), class)
	if errno != api.OK || len(got) != 6 {
		t.Error(errno, got)
	}
	for i, o := range got { // who is answered 1 comes last where it comes early
		want := make([]int, 8)
		want[6-i] = 1
		if !slices.Equal(replies(o), want) {
			t.Errorf("%d: %v, want %v", i, replies(o), want)
		}
	}
}

// TestManyCalls: rows of as many like calls as there may be, whose ways nobody could go through.
func TestManyCalls(t *testing.T) {
	a := like(t, "interval", 1, 0, 0, 0, 0, 0, 0, 0, 0, 2)
	class := procs(10, "f", integer(1))
	got, errno := table.Outcomes(a, integer(0), class)
	// 4096 of 10! ways: the first three calls are given the class's first three, the last one any of the others.
	var want []string
	for last := 9; last >= 3; last-- {
		var answers []string
		for i := range 10 {
			answers = append(answers, fmt.Sprintf("p%02d %d", i, map[int]int{0: 1, last: 2}[i]))
		}
		want = append(want, strings.Join(answers, ", ")+" -> 0")
	}
	if s := said(t, got); errno != api.OK || s != strings.Join(want, "; ") {
		t.Errorf("%d: %s", errno, s)
	}
	// A call that fits none, wherever it stands: there is no way, whatever the others are given.
	for i := range 10 {
		class := slices.Clone(class)
		class[i].Op = "g"
		if got, errno := table.Outcomes(a, integer(0), class); errno != api.OK || len(got) != 0 {
			t.Error(i, errno, got)
		}
	}
	b := a
	b.Rows = nil
	for k := range 20000 {
		row := likeRow(0, make([]int, 10)...)
		row.Calls[9].Arg = integer(int64(k + 2))
		b.Rows = append(b.Rows, row)
	}
	if got, errno := table.Outcomes(b, integer(0), class); errno != api.OK || len(got) != 0 {
		t.Error(errno, got)
	}
	// A row of more calls than a class may have is for none, and does no harm.
	a.Rows = []api.Row{likeRow(5, make([]int, 11)...), likeRow(4, make([]int, 10)...)}
	if got, errno := table.Outcomes(a, integer(0), procs(10, "f", integer(1))); errno != api.OK || len(got) != 1 || got[0].Next.Int != 4 {
		t.Error(errno, got)
	}
}

func TestOutcomesLimit(t *testing.T) {
	a := like(t, "linear")
	for _, n := range []int{1, 511, 512, 513, 2000} {
		a.Rows = nil
		for i := range n { // falling, and each twice
			a.Rows = append(a.Rows, likeRow(0, n-i), likeRow(0, n-i))
		}
		got, errno := looked(t, a, integer(0), procs(1, "f", integer(1)))
		if errno != api.OK || len(got) != min(n, 512) {
			t.Fatal(n, errno, len(got))
		}
		for i, o := range got {
			if o.Answers[0].Value.Int != int64(i+1) {
				t.Fatal(n, i, o)
			}
		}
	}
}

// TestMuch: many rows of many ways, with great values.
func TestMuch(t *testing.T) {
	a := like(t, "set")
	a.Rows = nil
	great := rowOf(api.KList, slices.Repeat([]api.Value{integer(7)}, 300)...)
	a.Reply = api.Sort{Kind: api.SList, Items: []api.Sort{{Kind: api.SInt}}}
	for k := range 20 {
		row := likeRow(int64(k), make([]int, 10)...)
		for i := range row.Replies {
			v := rowOf(api.KList, great.Items...)
			v.Items = append(slices.Clone(v.Items), integer(int64(i)))
			row.Replies[i].Value = v
		}
		a.Rows = append(a.Rows, row)
	}
	got, errno := table.Outcomes(a, integer(0), procs(10, "f", integer(1)))
	if errno != api.OK || len(got) != 512 || got[0].Next.Int != 0 || got[19].Next.Int != 19 || !sameOutcome(api.Outcome{Answers: got[0].Answers, Next: integer(1)}, got[1]) {
		t.Error(errno, len(got))
	}
	fresh(t, listsOfOutcomes(got), listsHandedIn(a, api.Value{}, nil))
}

func TestCompare(t *testing.T) {
	v := func(s string) api.Value { return valueOf(t, s) }
	of := func(next string, answers ...any) api.Outcome {
		o := api.Outcome{Next: v(next)}
		for i := 0; i < len(answers); i += 2 {
			o.Answers = append(o.Answers, api.Answer{Proc: answers[i].(string), Value: v(answers[i+1].(string))})
		}
		return o
	}
	wrong := of("5", "z", "5")
	wrong.Answers[0].Value = api.Value{Kind: 8}
	last := of("5", "z", "5")
	last.Next = loop()
	also := last
	also.Next = symbol("true")
	// Each comes ahead of those behind it, unless they stand in one list.
	rows := [][]api.Outcome{
		{{Answers: nil, Next: v("false")}, {Answers: []api.Answer{}, Next: v("false")}},
		{of("7")},
		{of("x")},
		{{}, {Next: api.Value{Kind: api.KInt, Text: "x"}}},
		{of("9", "P", "9")},
		{of("9", "p", "true")},
		{of("0", "p", "-1")},
		{of("1", "p", "-1")},
		{of("[]", "p", "-1")},
		{of("0", "p", "0")},
		{of("0", "p", "{}")},
		{of("0", "p10", "0")},
		{of("0", "p2", "0")},
		{of("5", "z", "5")},
		{last, also},
		{wrong},
		{of("0", "é", "0")},
		{of("0", "\xff", "0")},
		{of("0", "a", "0", "b", "5")},
		{of("0", "a", "0", "c", "0")},
		{of("0", "a", "1", "b", "0")},
		{of("0", "b", "1", "a", "0")},
		{of("0", "b", "1", "a", "1")},
		{of("1", "b", "1", "a", "1")},
		{of("0", "a", "0", "a", "0", "a", "0")},
	}
	for i, as := range rows {
		for j, bs := range rows {
			for _, a := range as {
				for _, b := range bs {
					want := map[bool]int{true: -1}[i < j] + map[bool]int{true: 1}[i > j]
					before := shownOutcome(a) + shownOutcome(b)
					if got := table.Compare(a, b); got != want || got != modelCompare(a, b) {
						t.Errorf("%s: %d, want %d", before, got, want)
					}
					if shownOutcome(a)+shownOutcome(b) != before {
						t.Errorf("changed: %s", before)
					}
				}
			}
		}
	}
}

// chanceValues are values of one sort each, in no order.
func chanceValues(t testing.TB) map[string][]api.Value {
	all := map[string][]api.Value{}
	for sort, texts := range map[string]string{
		"int":           "2|0|-1",
		"symbol":        "b|a|ä",
		"list int":      "[0, 0]|[]|[3]|[1, 0]",
		"set bool":      "{true}|{}|{false, true}",
		"(gauss, bool)": "(1+0i, true)|(0-1i, true)|(0-1i, false)",
	} {
		for s := range strings.SplitSeq(texts, "|") {
			all[sort] = append(all[sort], valueOf(t, s))
		}
	}
	return all
}

// chanceTable makes a table of rows of few calls, and answers what its args, replies and states may be.
func chanceTable(t testing.TB, rnd *rand.Rand) (a api.Auto, args, answers, states []api.Value) {
	all := chanceValues(t)
	sorts := []string{"int", "symbol", "list int", "set bool", "(gauss, bool)"}
	arg, reply, state := pick(rnd, sorts), pick(rnd, sorts), pick(rnd, sorts)
	mode := pick(rnd, []string{"linear", "set", "interval"})
	a = tableOf(t, "table T "+mode+" arg "+arg+" reply "+reply+" state "+state+" start head([]) { }")
	args, answers, states = all[arg], all[reply], all[state]
	if rnd.Intn(4) > 0 {
		a.Start = api.Expr{Kind: api.ELit, Value: pick(rnd, states)}
	}
	for range rnd.Intn(8) {
		a.Rows = append(a.Rows, chanceRow(rnd, a.Mode, args[:2], answers, states))
	}
	return a, args, answers, states
}

func chanceRow(rnd *rand.Rand, mode api.Mode, args, answers, states []api.Value) api.Row {
	row := api.Row{From: pick(rnd, states), To: pick(rnd, states)}
	names := []string{"a", "b", "c", "d", "p", "true", ""}
	rnd.Shuffle(len(names), func(i, j int) { names[i], names[j] = names[j], names[i] })
	calls := 1
	if mode != api.MLinear {
		calls = 1 + rnd.Intn(4)
	}
	for _, who := range names[:calls] {
		row.Calls = append(row.Calls, api.RowCall{Who: who, Op: pick(rnd, []string{"f", "f", "g"}), Arg: pick(rnd, args)})
	}
	rnd.Shuffle(calls, func(i, j int) { names[i], names[j] = names[j], names[i] })
	if mode == api.MInterval {
		calls = 1 + rnd.Intn(calls)
	}
	for _, who := range names[:calls] {
		row.Replies = append(row.Replies, api.RowReply{Who: who, Value: pick(rnd, answers)})
	}
	return row
}

// chanceClass makes a class out of a row's calls, or of whatever calls.
func chanceClass(rnd *rand.Rand, a api.Auto, args []api.Value) []api.Ask {
	names := []string{"P", "a", "p", "p1", "p10", "q", "é"}
	var class []api.Ask
	if len(a.Rows) > 0 && rnd.Intn(5) > 0 {
		for _, c := range pick(rnd, a.Rows).Calls {
			class = append(class, api.Ask{Op: c.Op, Arg: c.Arg})
		}
	} else {
		for range 1 + rnd.Intn(3) {
			class = append(class, api.Ask{Op: "f", Arg: pick(rnd, args)})
		}
	}
	rnd.Shuffle(len(class), func(i, j int) { class[i], class[j] = class[j], class[i] })
	picked := rnd.Perm(len(names))[:len(class)]
	slices.Sort(picked)
	for i, n := range picked {
		class[i].Proc = names[n]
	}
	return class
}

// spoilClass makes something wrong, or something else, of a class.
func spoilClass(rnd *rand.Rand, class []api.Ask, args []api.Value) {
	i := rnd.Intn(len(class))
	switch rnd.Intn(5) {
	case 0:
		class[i].Proc = pick(rnd, []string{"", "true", "a", "z", "p p"})
	case 1:
		class[i].Op = pick(rnd, []string{"", "false", "f", "h", "f\xff"})
	case 2:
		class[i].Arg = pick(rnd, append([]api.Value{{}, loop(), integer(5)}, args...))
	case 3:
		j := rnd.Intn(len(class))
		class[i], class[j] = class[j], class[i]
	}
}

// spoilTable makes something wrong, or something else, of a table.
func spoilTable(rnd *rand.Rand, a *api.Auto) {
	switch rnd.Intn(8) {
	case 0:
		a.Table = false
		return
	case 1:
		a.Mode = api.Mode(rnd.Intn(5))
		return
	}
	if len(a.Rows) == 0 {
		return
	}
	row := &a.Rows[rnd.Intn(len(a.Rows))]
	switch rnd.Intn(6) {
	case 0:
		row.From = pick(rnd, []api.Value{{}, integer(0), symbol("x"), loop()})
	case 1:
		row.To = pick(rnd, []api.Value{{}, integer(0), symbol("x"), loop()})
	case 2:
		row.Calls = row.Calls[:rnd.Intn(len(row.Calls))]
	case 3:
		row.Replies = row.Replies[:rnd.Intn(len(row.Replies))]
	case 4:
		row.Calls[0].Who = pick(rnd, row.Calls).Who
	case 5:
		row.Replies[0].Value = pick(rnd, []api.Value{{}, integer(0), symbol("x"), loop()})
	}
}

func TestByChance(t *testing.T) {
	rnd := rand.New(rand.NewSource(14))
	counts := map[string]int{}
	for range 20000 {
		a, args, _, states := chanceTable(t, rnd)
		state, class := pick(rnd, states), chanceClass(rnd, a, args)
		if len(a.Rows) > 0 && rnd.Intn(4) > 0 {
			state = pick(rnd, a.Rows).From
		}
		if rnd.Intn(6) == 0 {
			spoilClass(rnd, class, args)
		}
		if rnd.Intn(6) == 0 {
			spoilTable(rnd, &a)
		}
		got, errno := looked(t, a, state, class)
		counts[fmt.Sprint("outcomes ", errno, " ", min(len(got), 3))]++
		reach, errno := gone(t, a)
		counts[fmt.Sprint("reach ", errno, " ", min(len(reach), 3))]++
	}
	for _, s := range []string{"outcomes 0 0", "outcomes 0 1", "outcomes 0 2", "outcomes 0 3", "outcomes 2 0", "outcomes 140 0", "reach 0 0", "reach 0 1", "reach 0 2", "reach 0 3", "reach 140 0"} {
		if counts[s] < 100 {
			t.Errorf("%s: %d times", s, counts[s])
		}
	}
}

// TestCompareByChance: of whatever outcomes.
func TestCompareByChance(t *testing.T) {
	rnd := rand.New(rand.NewSource(143))
	values := []api.Value{integer(0), integer(1), valueOf(t, "[]"), valueOf(t, "[0]"), {}, loop()}
	chance := func() api.Outcome {
		o := api.Outcome{Next: pick(rnd, values)}
		for range rnd.Intn(3) {
			o.Answers = append(o.Answers, api.Answer{Proc: pick(rnd, []string{"p", "q", ""}), Value: pick(rnd, values)})
		}
		return o
	}
	for range 50000 {
		a, b, c := chance(), chance(), chance()
		ab, bc, ac := table.Compare(a, b), table.Compare(b, c), table.Compare(a, c)
		if ab != modelCompare(a, b) || ab != -table.Compare(b, a) || table.Compare(a, a) != 0 {
			t.Fatalf("%s, %s: %d", shownOutcome(a), shownOutcome(b), ab)
		}
		if ab == bc && ab != ac || ab == 0 && bc != ac {
			t.Fatalf("%s, %s, %s: %d, %d, %d", shownOutcome(a), shownOutcome(b), shownOutcome(c), ab, bc, ac)
		}
	}
	if value.Compare(values[4], values[5]) != 0 {
		t.Error("values that are not right are alike")
	}
}
