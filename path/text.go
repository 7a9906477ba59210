package path

import (
	"iter"
	"strings"

	"confluence/api"
	"confluence/asn"
)

// none is the text of an empty path.
const none = "-"

// Text writes the numbers of a path, those of a set in braces.
func Text(l []api.Seg) string {
	var parts []string
	for _, s := range l {
		part := ""
		// asn has a text for no numbers too, which would stand for an empty path here.
		if len(s.AS) > 0 {
			part = asn.Text(s.AS)
		}
		if s.Kind == api.Set {
			part = "{" + part + "}"
		}
		if part != "" {
			parts = append(parts, part)
		}
	}
	if len(parts) == 0 {
		return none
	}
	return strings.Join(parts, " ")
}

// Parse reads what Text writes of good paths, and nothing else.
func Parse(s string) ([]api.Seg, api.Errno) {
	if s == none {
		return nil, api.OK
	}
	var l []api.Seg
	for part, set := range parts(s) {
		as, e := asn.Parse(part)
		if e != api.OK {
			return nil, api.ErrForm
		}
		if set {
			l = append(l, api.Seg{Kind: api.Set, AS: as})
		} else {
			l = append(l, Seq(as...)...)
		}
	}
	// Spaces and braces are not minded above: each good path has one text.
	if !Good(l) || Text(l) != s {
		return nil, api.ErrForm
	}
	return l, api.OK
}

// parts goes through a text: what is in braces, which is a set, and what stands between those. It minds no spaces, and no brace that is missing.
func parts(s string) iter.Seq2[string, bool] {
	return func(yield func(string, bool) bool) {
		for rest := s; rest != ""; {
			inner, set := strings.CutPrefix(rest, "{")
			var part string
			if set {
				part, rest, _ = strings.Cut(inner, "}")
				rest = strings.TrimPrefix(rest, " ")
			} else if at := strings.Index(rest, " {"); at >= 0 {
				part, rest = rest[:at], rest[at+1:]
			} else {
				part, rest = rest, ""
			}
			if !yield(part, set) {
				return
			}
		}
	}
}
