package ring

import (
	"slices"

	"goodname/api"
)

func within(n, lo, hi int) bool { return lo <= n && n <= hi }

func strengthValid(n int) bool { return within(n, 1, api.MaxStrength) }

func huntValid(h api.Hunt) bool {
	return within(h.Window, 0, api.MaxDay) &&
		within(h.Common, 2, api.MaxFilings) &&
		within(h.Size, 2, api.MaxFilings)
}

func filingsValid(l []api.Filing) bool {
	invalid := func(f api.Filing) bool { return !filingValid(f) }
	return len(l) <= api.MaxFilings && ascending(ids(l)) && !slices.ContainsFunc(l, invalid)
}

func filingValid(f api.Filing) bool {
	return within(f.Day, 0, api.MaxDay) && len(f.Parts) <= api.MaxParts && ascending(f.Parts)
}

// ascending tells whether numbers are from 0 to MaxId, in increasing order, and
// none twice.
func ascending(l []int) bool {
	least := 0
	for _, n := range l {
		if !within(n, least, api.MaxId) {
			return false
		}
		least = n + 1
	}
	return true
}

// areFilings tells whether numbers are Ids of filings, in increasing order.
func (w *hunt) areFilings(l []int) bool {
	stranger := func(id int) bool { return !slices.Contains(w.ids, id) }
	return ascending(l) && !slices.ContainsFunc(l, stranger)
}
