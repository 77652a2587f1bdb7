package bits_test

import (
	"cmp"
	"math"
	mbits "math/bits"
	"slices"
	"testing"

	"sextant/api"
	"sextant/bits"
)

func rowsOf(items []int) [][]int {
	var rows [][]int
	for row := range bits.Subsets(items) {
		rows = append(rows, row)
	}
	return rows
}

func sameRows(a, b [][]int) bool { return slices.EqualFunc(a, b, slices.Equal[[]int]) }

// sortedRows tells the rows by P3.4's words: all choices of places, sorted by length and then place by place.
func sortedRows(items []int) [][]int {
	var choices [][]int
	for mask := uint(1); mask < 1<<len(items); mask++ {
		choice := make([]int, 0, mbits.OnesCount(mask))
		for p := range items {
			if mask>>p&1 == 1 {
				choice = append(choice, p)
			}
		}
		choices = append(choices, choice)
	}
	slices.SortFunc(choices, func(a, b []int) int {
		return cmp.Or(cmp.Compare(len(a), len(b)), slices.Compare(a, b))
	})
	for _, choice := range choices {
		for k, p := range choice {
			choice[k] = items[p]
		}
	}
	return choices
}

// P3.4 and P3.5

func TestSubsetsExample(t *testing.T) {
	want := [][]int{{5}, {7}, {9}, {5, 7}, {5, 9}, {7, 9}, {5, 7, 9}}
	if rows := rowsOf([]int{5, 7, 9}); !sameRows(rows, want) {
		t.Error(rows)
	}
}

func TestSubsetsOfUpToMaxOpenItems(t *testing.T) {
	items := []int{40, -3, 0, math.MaxInt, 7, math.MinInt, 12, 1, 99, -98}
	for n := range api.MaxOpen + 1 {
		rows := rowsOf(items[:n])
		if len(rows) != 1<<n-1 {
			t.Errorf("%d items: %d rows", n, len(rows))
		}
		if !sameRows(rows, sortedRows(items[:n])) {
			t.Errorf("%d items: %v", n, rows)
		}
	}
}

func TestSubsetsOfNothing(t *testing.T) {
	for _, items := range [][]int{nil, {}} {
		if rows := rowsOf(items); len(rows) != 0 {
			t.Error(rows)
		}
	}
}

func TestSubsetsOfTooMany(t *testing.T) {
	for _, n := range []int{api.MaxOpen + 1, api.MaxOpen + 2, 64, 1 << 20} {
		all := bits.Subsets(make([]int, n))
		if all == nil {
			t.Fatal(n, "no iterator")
		}
		for row := range all {
			t.Fatal(n, row)
		}
	}
}

func TestSubsetsCountLikeItemsByTheirPlaces(t *testing.T) {
	want := [][]int{{5}, {5}, {4}, {5, 5}, {5, 4}, {5, 4}, {5, 5, 4}}
	if rows := rowsOf([]int{5, 5, 4}); !sameRows(rows, want) {
		t.Error(rows)
	}
	if rows := rowsOf(make([]int, api.MaxOpen)); !sameRows(rows, sortedRows(make([]int, api.MaxOpen))) {
		t.Error(len(rows), "rows of ten zeros")
	}
}

// R1, R3 and R4

func TestSubsetsReadItemsWhenCalled(t *testing.T) {
	items := []int{5, 7, 9}
	all := bits.Subsets(items)
	items[0] = 1
	k := 0
	for range all {
		items[2] = k
		k++
	}
	want := [][]int{{5}, {7}, {9}, {5, 7}, {5, 9}, {7, 9}, {5, 7, 9}}
	if rows := slices.Collect(all); k != 7 || !sameRows(rows, want) {
		t.Error(k, rows)
	}
	if !slices.Equal(items, []int{1, 7, 6}) {
		t.Error("the items changed:", items)
	}
}

func TestSubsetsRowsAreNewMemory(t *testing.T) {
	items := []int{5, 7, 9}
	all := bits.Subsets(items)
	var kept [][]int
	for row := range all {
		kept = append(kept, slices.Clone(row))
		clear(row)
		_ = append(row[:0], -1, -1, -1, -1)
	}
	want := [][]int{{5}, {7}, {9}, {5, 7}, {5, 9}, {7, 9}, {5, 7, 9}}
	if !sameRows(kept, want) || !slices.Equal(items, []int{5, 7, 9}) {
		t.Error(kept, items)
	}
	rows := slices.Collect(all)
	for i, row := range rows { // a change of one row, or behind it, is seen in no other
		row[0] = 100 + i
		_ = append(row, -1, -1)
	}
	for i, row := range rows {
		if row[0] != 100+i || !slices.Equal(row[1:], want[i][1:]) {
			t.Error(i, row)
		}
	}
	if rows := slices.Collect(all); !sameRows(rows, want) {
		t.Error("again:", rows)
	}
}

func TestSubsetsMayBeLeftAndGoneThroughAgain(t *testing.T) {
	items := []int{4, 3, 2, 1}
	want := sortedRows(items)
	all := bits.Subsets(items)
	for stop := range want {
		var rows [][]int
		for row := range all {
			rows = append(rows, row)
			if len(rows) > stop {
				break
			}
		}
		if !sameRows(rows, want[:stop+1]) {
			t.Error("left early:", rows)
		}
	}
	for range all { // a ranging within another one of the same iterator
		if rows := slices.Collect(all); !sameRows(rows, want) {
			t.Error("within another:", rows)
		}
	}
}
