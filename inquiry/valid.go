package inquiry

import (
	"goodname/api"
	"goodname/order"
)

// needsUntil is of which kinds a signal needs a day until which it is.
var needsUntil = [...]bool{
	api.SignalFreeze: false,
	api.SignalThaw:   false,
	api.SignalLift:   true,
	api.SignalAlert:  true,
	api.SignalClear:  false,
}

func within(n, lo, hi int) bool { return lo <= n && n <= hi }

func purposeValid(p uint8) bool {
	return within(int(p), api.PurposeCredit, api.PurposeMarket)
}

func fileAndDayValid(file, day int) bool {
	return within(file, 0, api.MaxId) && within(day, 0, api.MaxDay)
}

func licencesValid(l []api.Licence) bool {
	if len(l) > api.MaxLicences {
		return false
	}
	for _, x := range l {
		if !licenceValid(x) {
			return false
		}
	}
	return true
}

// licenceValid knows no licence for PurposeSelf: nobody needs one for that.
func licenceValid(x api.Licence) bool {
	return within(x.Who, 0, api.MaxId) &&
		purposeValid(x.Purpose) && x.Purpose != api.PurposeSelf &&
		within(x.To, 0, api.MaxDay) &&
		within(x.From, 0, x.To)
}

func signalsValid(l []api.Signal) bool {
	if len(l) > api.MaxSignals {
		return false
	}
	for _, s := range l {
		if !signalValid(s) {
			return false
		}
	}
	return ascending(l, bureauOf, idOf)
}

func signalValid(s api.Signal) bool {
	return within(s.Bureau, 0, api.MaxBureau) &&
		within(s.Id, 0, api.MaxId) &&
		fileAndDayValid(s.File, s.Day) &&
		within(int(s.Kind), api.SignalFreeze, api.SignalClear) &&
		untilValid(s)
}

func untilValid(s api.Signal) bool {
	if needsUntil[s.Kind] {
		return within(s.Until, s.Day, api.MaxDay)
	}
	return s.Until == 0
}

func inquiriesValid(l []api.Inquiry) bool {
	if len(l) > api.MaxInquiries {
		return false
	}
	for _, q := range l {
		if !inquiryValid(q) {
			return false
		}
	}
	return ascending(l, idOfInquiry)
}

func inquiryValid(q api.Inquiry) bool {
	return within(q.Id, 0, api.MaxId) &&
		within(q.Who, 0, api.MaxId) &&
		fileAndDayValid(q.File, q.Day) &&
		purposeValid(q.Purpose)
}

func idOfInquiry(q api.Inquiry) int { return q.Id }

// ascending tells whether each element of a list comes before the next one, by the
// first one of their numbers that differs: no two have all the same.
func ascending[T any](l []T, numbers ...func(T) int) bool {
	for i := 1; i < len(l); i++ {
		if order.Compare(l[i-1], l[i], numbers...) >= 0 {
			return false
		}
	}
	return true
}
