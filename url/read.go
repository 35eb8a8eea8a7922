package url

import (
	"strconv"
	"strings"

	"portcullis/api"
	"portcullis/host"
	"portcullis/pct"
	"portcullis/utf"
)

// reader is a URL that is read step by step.
type reader struct {
	url     api.Url
	rest    string // what is not read yet
	special bool
	slashes string // what stands for a slash
	port    string // kept for its own step, since a host's error goes ahead of a port's
}

// steps are those of the chapter, in its order. One that has nothing to read leaves the rest as it is.
func (r *reader) steps() []func() api.Errno {
	return []func() api.Errno{
		r.readScheme,
		r.readSlashes,
		r.readAuthority,
		r.readPort,
		r.readPath,
		r.readOpaquePath,
		r.readQuery,
		r.readFragment,
	}
}

// tidy answers s, made clean, without what no URL is made of. It is done ahead of all else, so that nothing is hidden by it.
func tidy(s string) string {
	inner := strings.TrimFunc(utf.Clean(s), func(c rune) bool { return c <= ' ' })
	return strings.Map(func(c rune) rune {
		if c == '\t' || c == '\n' || c == '\r' {
			return -1
		}
		return c
	}, inner)
}

func (r *reader) readScheme() api.Errno {
	name, rest, found := divide(r.rest, first(":"))
	if !found || !isScheme(name) {
		return api.ErrProtocol
	}
	name = strings.ToLower(name)
	if name == "file" {
		return api.ErrProtocol
	}
	r.url.Scheme, r.rest, r.slashes = name, rest, "/"
	_, r.special = Port(name)
	if r.special {
		r.slashes = `/\`
	}
	return api.OK
}

// readSlashes tells by the slashes in front what follows: an authority, a path, or an opaque path.
func (r *reader) readSlashes() api.Errno {
	if r.special {
		r.rest = strings.TrimLeft(r.rest, r.slashes)
		r.url.HasHost = true
		return api.OK
	}
	r.rest, r.url.HasHost = strings.CutPrefix(r.rest, "//")
	r.url.Opaque = !r.url.HasHost && !strings.HasPrefix(r.rest, "/")
	return api.OK
}

func (r *reader) readAuthority() api.Errno {
	if !r.url.HasHost {
		return api.OK
	}
	authority := r.take(first(r.slashes + "?#"))
	user, behind, found := divide(authority, last("@"))
	switch {
	case !found:
		return r.readHost(authority)
	case behind == "":
		return api.ErrHost
	}
	r.setUser(user)
	return r.readHost(behind)
}

func (r *reader) setUser(s string) {
	name, pass, _ := divide(s, first(":"))
	r.url.User = pct.Encode(name, api.SetUser)
	r.url.Pass = pct.Encode(pass, api.SetUser)
}

// readHost reads a host and what may stand behind it. That a special URL has no host at all is refused below.
func (r *reader) readHost(s string) api.Errno {
	name, port, found := divide(s, firstOutside(":"))
	if found && name == "" {
		return api.ErrHost
	}
	h, e := host.Parse(name, r.special)
	r.url.Host, r.port = h, port
	return e
}

// readPort leaves out a special scheme's own port. Another scheme has none: 0 is a port there as any other.
func (r *reader) readPort() api.Errno {
	if r.port == "" {
		return api.OK
	}
	n, err := strconv.ParseUint(r.port, 10, 16)
	if err != nil {
		return api.ErrPort
	}
	own, _ := Port(r.url.Scheme)
	if r.special && uint16(n) == own {
		return api.OK
	}
	r.url.HasPort, r.url.Port = true, uint16(n)
	return api.OK
}

// readPath reads pieces. Nothing is ahead of the first slash, if there is one, since all that comes ahead of a path ends there.
func (r *reader) readPath() api.Errno {
	if !r.special && !strings.HasPrefix(r.rest, "/") {
		return api.OK
	}
	_, path, _ := divide(r.take(first("?#")), first(r.slashes))
	for more := true; more; {
		var piece string
		piece, path, more = divide(path, first(r.slashes))
		r.putPiece(piece, !more)
	}
	return api.OK
}

// putPiece puts a piece to the path, or does what its dots say. Dots at the end leave a slash there.
func (r *reader) putPiece(piece string, isLast bool) {
	path := r.url.Path
	switch strings.ReplaceAll(strings.ReplaceAll(piece, "%2e", "."), "%2E", ".") {
	case "..":
		path = path[:max(len(path)-1, 0)]
		fallthrough
	case ".":
		if isLast {
			path = append(path, "")
		}
	default:
		path = append(path, pct.Encode(piece, api.SetPath))
	}
	r.url.Path = path
}

func (r *reader) readOpaquePath() api.Errno {
	if r.url.Opaque {
		r.url.Body = pct.Encode(r.take(first("?#")), api.SetControl)
	}
	return api.OK
}

func (r *reader) readQuery() api.Errno {
	set := api.SetQuery
	if r.special {
		set = api.SetSpecial
	}
	r.rest, r.url.HasQuery = strings.CutPrefix(r.rest, "?")
	if r.url.HasQuery {
		r.url.Query = pct.Encode(r.take(first("#")), set)
	}
	return api.OK
}

func (r *reader) readFragment() api.Errno {
	r.rest, r.url.HasFragment = strings.CutPrefix(r.rest, "#")
	r.url.Fragment = pct.Encode(r.rest, api.SetFragment)
	return api.OK
}

// take cuts off what of the rest is ahead of that place.
func (r *reader) take(where place) string {
	ahead, rest := cut(r.rest, where)
	r.rest = rest
	return ahead
}

// isScheme tells whether s, which may have capitals, is a scheme's name.
func isScheme(s string) bool {
	const marks = "+-."
	for i := range len(s) {
		c := s[i]
		if !isLetter(c) && (i == 0 || !isDigit(c) && strings.IndexByte(marks, c) < 0) {
			return false
		}
	}
	return s != ""
}

func isLetter(c byte) bool { return 'a' <= c && c <= 'z' || 'A' <= c && c <= 'Z' }

func isDigit(c byte) bool { return '0' <= c && c <= '9' }
