package skel

import "portcullis/api"

// names has the scripts' names, each at its script's number.
var names = [...]string{
	api.Common:     "Common",
	api.Inherited:  "Inherited",
	api.Latin:      "Latin",
	api.Greek:      "Greek",
	api.Cyrillic:   "Cyrillic",
	api.Hebrew:     "Hebrew",
	api.Arabic:     "Arabic",
	api.Devanagari: "Devanagari",
	api.Hiragana:   "Hiragana",
	api.Katakana:   "Katakana",
	api.Han:        "Han",
	api.Deseret:    "Deseret",
}

// Name answers the name of a script, nothing if there is none of that number.
func Name(script uint8) string {
	if int(script) >= len(names) {
		return ""
	}
	return names[script]
}

// Of answers the number of the script that has this name.
func Of(name string) (uint8, api.Errno) {
	for script, its := range names {
		if its == name {
			return uint8(script), api.OK
		}
	}
	return 0, api.ErrNone
}
