package shown

import (
	"testing"

	"portcullis/api"
)

// Layer 17's words: what idna.Unicode, without hyphens, answers of a domain's Name.
func TestP17_1Form(t *testing.T) {
	for name, want := range map[string]string{
		"a": "a", "a.b": "a.b", "xn--tda": "\u00FC", "xn--bcher-kva.de": "b\u00FCcher.de", "xn--pypal-4ve.com": "p\u0430ypal.com",
		"a.xn--80a.xn--tda.b": "a.\u0430.\u00FC.b", "xn--80ak6aa92e.com": "\u0430\u0440\u0440\u04CF\u0435.com", "tda": "tda", "-a--b-": "-a--b-", "": "",
	} {
		if got := Form(api.Host{Kind: api.Domain, Name: name}); got != want {
			t.Errorf("%q: %q, not %q", name, got, want)
		}
	}
}
