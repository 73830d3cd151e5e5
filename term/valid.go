package term

import "goodname/api"

func within(n, lo, hi int) bool { return lo <= n && n <= hi }

// inOrder tells whether each element of a list is before the next one, so that
// no two are alike.
func inOrder[T any](l []T, before func(a, b T) bool) bool {
	for i := 1; i < len(l); i++ {
		if !before(l[i-1], l[i]) {
			return false
		}
	}
	return true
}

func codeValid(c api.Code) bool { return lawsValid(c.Laws) && stillsValid(c.Stills) }

func lawsValid(laws []api.Law) bool {
	if len(laws) > api.MaxLaws {
		return false
	}
	for _, w := range laws {
		if !lawValid(w) {
			return false
		}
	}
	return inOrder(laws, func(a, b api.Law) bool {
		return a.Land < b.Land || a.Land == b.Land && a.Kind < b.Kind
	})
}

func lawValid(w api.Law) bool {
	return landValid(w.Land) &&
		within(int(w.Kind), api.RepOpened, api.RepClosed) &&
		within(int(w.Base), api.BaseAbout, api.BaseClosed) &&
		within(w.Keep, 0, api.MaxDay)
}

func stillsValid(stills []api.Still) bool {
	if len(stills) > api.MaxStills {
		return false
	}
	for _, s := range stills {
		if !landValid(s.Land) || !within(s.Days, 1, api.MaxDay) || s.Means > api.StillPaid {
			return false
		}
	}
	return inOrder(stills, func(a, b api.Still) bool { return a.Land < b.Land })
}

func homesValid(homes []api.Home) bool {
	if len(homes) > api.MaxHomes {
		return false
	}
	for _, h := range homes {
		if !within(h.Account, 0, api.MaxId) || !landValid(h.Land) {
			return false
		}
	}
	return inOrder(homes, func(a, b api.Home) bool { return a.Account < b.Account })
}

func landValid(land int) bool { return within(land, 0, api.MaxLand) }
