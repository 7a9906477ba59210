package notice

import (
	"strconv"

	"confluence/api"
)

// Name is what a notice tells of, as a text: its data do not count.
func Name(n api.Notice) string {
	name := kind(n.Code)
	if n.Sub != 0 {
		name += " " + strconv.Itoa(n.Sub)
	}
	return name
}

// kind is the word that stands for a code.
func kind(code int) string {
	switch code {
	case api.HeadError:
		return "head"
	case api.OpenError:
		return "open"
	case api.UpdateError:
		return "update"
	case api.HoldError:
		return "hold"
	case api.StateError:
		return "state"
	case api.Cease:
		return "cease"
	}
	return "other"
}
