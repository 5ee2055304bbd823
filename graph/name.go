package graph

import "offshoot/api"

// Name tells whether a text may be a label, or a property's key: letters, digits and _, no digit first.
func Name(s string) bool {
	if s == "" || len(s) > api.MostName || digit(s[0]) {
		return false
	}
	for i := range len(s) {
		if !letter(s[i]) && !digit(s[i]) && s[i] != '_' {
			return false
		}
	}
	return true
}

func letter(b byte) bool { return b >= 'a' && b <= 'z' || b >= 'A' && b <= 'Z' }

func digit(b byte) bool { return b >= '0' && b <= '9' }
