package rules_test

import (
	"math/rand"
	"testing"

	"sextant/api"
	"sextant/rules"
	"sextant/value"
)

// P15.3

func TestCompare(t *testing.T) {
	v := func(s string) api.Value { return valueOf(t, s) }
	of := func(next string, answers ...any) api.Outcome {
		o := api.Outcome{Next: v(next)}
		for i := 0; i < len(answers); i += 2 {
			o.Answers = append(o.Answers, api.Answer{Proc: answers[i].(string), Value: v(answers[i+1].(string))})
		}
		return o
	}
	wrong := of("5", "z", "5")
	wrong.Answers[0].Value = api.Value{Kind: 8}
	last := of("5", "z", "5")
	last.Next = loop()
	also := last
	also.Next = symbol("true")
	// Each comes ahead of those behind it, unless they stand in one list.
	rows := [][]api.Outcome{
		{{Answers: nil, Next: v("false")}, {Answers: []api.Answer{}, Next: v("false")}},
		{of("7")},
		{of("x")},
		{{}, {Next: api.Value{Kind: api.KInt, Text: "x"}}},
		{of("9", "P", "9")},
		{of("9", "p", "true")},
		{of("0", "p", "-1")},
		{of("1", "p", "-1")},
		{of("[]", "p", "-1")},
		{of("0", "p", "0")},
		{of("0", "p", "{}")},
		{of("0", "p10", "0")},
		{of("0", "p2", "0")},
		{of("5", "z", "5")},
		{last, also},
		{wrong},
		{of("0", "é", "0")},
		{of("0", "\xff", "0")},
		{of("0", "a", "0", "b", "5")},
		{of("0", "a", "0", "c", "0")},
		{of("0", "a", "1", "b", "0")},
		{of("0", "b", "1", "a", "0")},
		{of("0", "b", "1", "a", "1")},
		{of("1", "b", "1", "a", "1")},
		{of("0", "a", "0", "a", "0", "a", "0")},
	}
	for i, as := range rows {
		for j, bs := range rows {
			for _, a := range as {
				for _, b := range bs {
					want := map[bool]int{true: -1}[i < j] + map[bool]int{true: 1}[i > j]
					before := shownOutcome(a) + shownOutcome(b)
					if got := rules.Compare(a, b); got != want || got != modelCompare(a, b) {
						t.Errorf("%s: %d, want %d", before, got, want)
					}
					if shownOutcome(a)+shownOutcome(b) != before {
						t.Errorf("changed: %s", before)
					}
				}
			}
		}
	}
}

// TestCompareByChance: of whatever outcomes.
func TestCompareByChance(t *testing.T) {
	rnd := rand.New(rand.NewSource(153))
	values := []api.Value{integer(0), integer(1), valueOf(t, "[]"), valueOf(t, "[0]"), {}, loop()}
	chance := func() api.Outcome {
		o := api.Outcome{Next: pick(rnd, values)}
		for range rnd.Intn(3) {
			o.Answers = append(o.Answers, api.Answer{Proc: pick(rnd, []string{"p", "q", ""}), Value: pick(rnd, values)})
		}
		return o
	}
	for range 50000 {
		a, b, c := chance(), chance(), chance()
		ab, bc, ac := rules.Compare(a, b), rules.Compare(b, c), rules.Compare(a, c)
		if ab != modelCompare(a, b) || ab != -rules.Compare(b, a) || rules.Compare(a, a) != 0 {
			t.Fatalf("%s, %s: %d", shownOutcome(a), shownOutcome(b), ab)
		}
		if ab == bc && ab != ac || ab == 0 && bc != ac {
			t.Fatalf("%s, %s, %s: %d, %d, %d", shownOutcome(a), shownOutcome(b), shownOutcome(c), ab, bc, ac)
		}
	}
	if value.Compare(values[4], values[5]) != 0 {
		t.Error("values that are not right are alike")
	}
}
