package sea

import (
	"slices"

	"escribano/api"
)

// fare is how a ship fares: how many days it is late, and how many of its calls it makes.
type fare struct{ late, made int }

// voyage is a ship that is looked at, and how it fares.
type voyage struct {
	api.ShShip
	fare
}

// voyages returns all ways in which a ship can fare.
func voyages(s api.ShShip) []voyage {
	var l []voyage
	for late := s.Late.Lo; late <= s.Late.Hi; late++ {
		for made := range len(s.Calls) + 1 {
			l = append(l, voyage{s, fare{late, made}})
		}
	}
	return l
}

// sinks reports whether the ship does not fare as if it makes all its calls.
func (v voyage) sinks() bool { return v.fare != fare{v.late, len(v.Calls)} }

// calls returns whether, and when, the ship calls at a port.
func (v voyage) calls(port int) Arrival {
	at := callAt(v.Calls[:v.made], port)
	if at < 0 {
		return Arrival{}
	}
	return Arrival{true, v.Sails + v.Calls[at].After + v.late}
}

// callAt returns the index of the call at a port, or -1.
func callAt(calls []api.ShCall, port int) int {
	return slices.IndexFunc(calls, func(c api.ShCall) bool { return c.Port == port })
}

// Takes reports whether a ship takes letters to a port from a day on.
func Takes(s api.ShShip, port, day int) bool { return s.Sails >= day && callAt(s.Calls, port) >= 0 }
