package table_test

import (
	"slices"
	"strings"

	"sextant/api"
	"sextant/eval"
	"sextant/sorts"
	"sextant/value"
)

// What the chapter says, told once more in another way, to hold the package against. Values, sorts and expressions are their layers', with tests of their own.

func modelTable(a api.Auto) bool { return a.Table && sorts.Auto(a).Code == api.OK }

func modelRight(a api.Auto, state api.Value, class []api.Ask) bool {
	if !modelTable(a) || !sorts.Fits(a.State, state) || len(class) < 1 || len(class) > 10 || a.Mode == api.MLinear && len(class) != 1 {
		return false
	}
	isName := func(s string) bool {
		return value.Check(symbol(s)) == api.OK
	}
	for i, c := range class {
		if !isName(c.Proc) || !isName(c.Op) || !sorts.Fits(a.Arg, c.Arg) || i > 0 && strings.Compare(class[i-1].Proc, c.Proc) != -1 {
			return false
		}
	}
	return true
}

// modelWays answers all rows of the numbers below n in which each stands once, the lesser at the first place where they differ first.
func modelWays(n int) [][]int {
	if n == 0 {
		return [][]int{nil}
	}
	var all [][]int
	for first := range n {
		for _, rest := range modelWays(n - 1) {
			row := []int{first}
			for _, r := range rest {
				if r >= first {
					r++
				}
				row = append(row, r)
			}
			all = append(all, row)
		}
	}
	return all
}

// modelOutcomes takes classes of at most seven calls.
func modelOutcomes(a api.Auto, state api.Value, class []api.Ask) ([]api.Outcome, api.Errno) {
	if !modelTable(a) {
		return nil, api.ErrTable
	}
	if !modelRight(a, state, class) {
		return nil, api.ErrArg
	}
	var all []api.Outcome
	for _, row := range a.Rows {
		if value.Compare(row.From, state) != 0 || len(row.Calls) != len(class) {
			continue
		}
		looked := 0
		for _, w := range modelWays(len(class)) {
			if o, ok := modelOutcome(row, class, w); ok && looked < 4096 {
				looked++
				all = append(all, o)
			}
		}
	}
	slices.SortStableFunc(all, modelCompare)
	all = slices.CompactFunc(all, sameOutcome)
	return all[:min(len(all), 512)], api.OK
}

// modelOutcome answers what a row comes to if its call at place i is given the one at place w[i] of the class.
func modelOutcome(row api.Row, class []api.Ask, w []int) (api.Outcome, bool) {
	o := api.Outcome{Next: row.To}
	procs := map[string]string{}
	for i, c := range row.Calls {
		got := class[w[i]]
		if got.Op != c.Op || !sameValue(got.Arg, c.Arg) {
			return api.Outcome{}, false
		}
		procs[c.Who] = got.Proc
	}
	for _, r := range row.Replies {
		o.Answers = append(o.Answers, api.Answer{Proc: procs[r.Who], Value: r.Value})
	}
	slices.SortFunc(o.Answers, func(x, y api.Answer) int { return strings.Compare(x.Proc, y.Proc) })
	return o, true
}

func modelCompare(a, b api.Outcome) int {
	if len(a.Answers) != len(b.Answers) {
		return map[bool]int{true: -1, false: 1}[len(a.Answers) < len(b.Answers)]
	}
	for i, x := range a.Answers {
		y := b.Answers[i]
		switch {
		case x.Proc < y.Proc:
			return -1
		case x.Proc > y.Proc:
			return 1
		case value.Compare(x.Value, y.Value) != 0:
			return value.Compare(x.Value, y.Value)
		}
	}
	return value.Compare(a.Next, b.Next)
}

// modelReach goes through all rows until none of them leads to a state more.
func modelReach(a api.Auto) ([]api.Value, api.Errno) {
	if !modelTable(a) {
		return nil, api.ErrTable
	}
	start, errno := eval.Eval(a.Start, nil, nil)
	if errno != api.OK {
		return nil, api.OK
	}
	states := []api.Value{start}
	has := func(v api.Value) bool {
		return slices.ContainsFunc(states, func(s api.Value) bool { return sameValue(s, v) })
	}
	for more := true; more; {
		more = false
		for _, row := range a.Rows {
			if has(row.From) && !has(row.To) {
				states, more = append(states, row.To), true
			}
		}
	}
	slices.SortFunc(states, value.Compare)
	return states, api.OK
}
