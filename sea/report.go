package sea

import "escribano/api"

// The kinds of reports, with api's numbers.
const (
	seen = iota
	away
	came
	lack
)

// saying is what a kind of report says: whether of a letter, and whether it is so if a ship calls so.
type saying struct {
	ofLetter bool
	isSo     func(a Arrival, day int) bool
}

// sayings returns what each kind of report says.
func sayings() []saying {
	isOn := func(a Arrival, day int) bool { return a.isOn(day) }
	isNotYet := func(a Arrival, day int) bool { return !a.IsUntil(day) }
	return []saying{seen: {false, isOn}, away: {false, isNotYet}, came: {true, isOn}, lack: {true, isNotYet}}
}

// IsOfLetter reports whether a report, of a kind that there is, is of a letter.
func IsOfLetter(r api.ShReport) bool { return sayings()[r.Kind].ofLetter }

// isSo reports whether what a report says is so if its ship, or the one by which its letter goes, calls so.
func (k Harbour) isSo(r api.ShReport, calls func(port int) Arrival) bool {
	port := r.Port
	if IsOfLetter(r) {
		port = k.Letters[r.Of].Port
	}
	return sayings()[r.Kind].isSo(calls(port), r.Day)
}
