// Package shown is no layer: it has a domain as it is shown, its Unicode form, which layers 17 and 18 both look at.
package shown

import (
	"portcullis/api"
	"portcullis/idna"
)

// Form answers the Unicode form of a domain. That of a canonical one has no fault.
func Form(domain api.Host) string {
	s, _ := idna.Unicode(domain.Name, false)
	return s
}
